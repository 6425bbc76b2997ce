/- Texts of one kind, put together. -/
import Derived.Test.YtiakhgafibgpgaaDoorMzA
import Derived.Test.YtiakhgafibgpgaaDoorEntM
import Derived.Test.YtiakhgafibgpgaaDoorCtxS
import Derived.Test.YtiakhgafibgpgaaDoorGrw
import Derived.BigGuard

/- The texts of messages: the mathematics; and a builder that leaves other rows alone. -/
namespace Go.Proofs.YtiakhgafibgpgaaDoor
open Go.RowKit Plain
set_option linter.unusedVariables false

namespace Plain
def numsM (kd fr tt tm ix lg cm : Int) (ok : Bool) : List Int := [kd, fr, tt, tm, ix, lg, cm, if ok then 1 else 0]
def numB (x : Int) : Bool := decide (0 ≤ x) && decide (x ≤ 1000000000000)
def entsB (es : List Ent) : Bool := es.all fun e => entB e.term e.kind e.body
def msgB (ns : List Int) (tx : ByteArray) (es : List Ent) : Bool := ns.all numB && (decide (tx.size ≤ 20000) && decide (es.length ≤ 8)) && entsB es
def pnL (x : Int) : List UInt8 := (putS x).data.toList
def txtL (s : ByteArray) : List UInt8 := (putT s).data.toList
def entPL (e : Ent) : List UInt8 := txtL (entT e.term e.kind e.body)
def catN (ns : List Int) : List UInt8 := ns.flatMap pnL
def catE (es : List Ent) : List UInt8 := es.flatMap entPL
def rowsL (es : List Ent) : List UInt8 := pnL es.length ++ catE es
def msgL (ns : List Int) (tx : ByteArray) (es : List Ent) (v l : List Int) : List UInt8 := if msgB ns tx es then catN ns ++ (txtL tx ++ txtL (strL (confL v l))) ++ rowsL es else []
theorem strL_data (s : ByteArray) : strL s.data.toList = s := rfl
theorem pnL_str (x : Int) : strL (pnL x) = putS x := rfl
theorem txtL_str (s : ByteArray) : strL (txtL s) = putT s := rfl
theorem pnL_len (x : Int) : (pnL x).length ≤ 6 := by have := putS_size x; unfold pnL; rw [Array.length_toList]; exact this
theorem putT_le2 (s : ByteArray) : (putT s).size ≤ 100000 := by
  unfold putT
  by_cases h : s.size ≤ 20000
  · rw [if_pos h, ByteArray.size_append]
    have := putS_size (s.size : Int)
    omega
  · rw [if_neg h]; decide
theorem txtL_len (s : ByteArray) : (txtL s).length ≤ 100000 := by have := putT_le2 s; unfold txtL; rw [Array.length_toList]; exact this
theorem catN_take (ns : List Int) (k : Nat) (h : k < ns.length) : catN (ns.take (k + 1)) = catN (ns.take k) ++ pnL ns[k] := by
  unfold catN
  rw [List.take_succ_eq_append_getElem h, List.flatMap_append]
  simp
theorem catE_take (es : List Ent) (k : Nat) (h : k < es.length) : catE (es.take (k + 1)) = catE (es.take k) ++ entPL es[k] := by
  unfold catE
  rw [List.take_succ_eq_append_getElem h, List.flatMap_append]
  simp
theorem catN_len (ns : List Int) : (catN ns).length ≤ 6 * ns.length := by
  induction ns with
  | nil => simp [catN]
  | cons a t ih => have := pnL_len a; unfold catN at ih ⊢; rw [List.flatMap_cons, List.length_append, List.length_cons]; omega
theorem catE_len (es : List Ent) : (catE es).length ≤ 100000 * es.length := by
  induction es with
  | nil => simp [catE]
  | cons a t ih => have := txtL_len (entT a.term a.kind a.body); unfold catE entPL at ih ⊢; rw [List.flatMap_cons, List.length_append, List.length_cons]; omega
theorem entT_ne {t k : Int} {b : ByteArray} (h : entB t k b = true) : (entT t k b).toList.isEmpty = false := by
  unfold entT
  rw [if_pos h]
  have hs := entB_sizes h
  obtain ⟨_, _, _, _, hb⟩ := entB_yes h
  have h1 := putS_size t
  have h2 := putS_size k
  have h3 := putS_size (b.size : Int)
  have h4 : (putS t ++ putS k ++ putT b).size ≤ 20000 := by
    unfold putT
    rw [if_pos (by omega), ByteArray.size_append, ByteArray.size_append, ByteArray.size_append]
    omega
  unfold frameB
  rw [if_pos ⟨by decide, by decide, h4⟩]
  generalize putS t ++ putS k ++ putT b = body
  have hz : 1 ≤ (sealB 2 body ++ strOfNums (fourL (crcI (sealB 2 body)))).size := by rw [ByteArray.size_append, seal_size]; omega
  generalize sealB 2 body ++ strOfNums (fourL (crcI (sealB 2 body))) = s at hz
  rw [ByteArray.toList_eq, Bool.eq_false_iff]
  intro h
  rw [List.isEmpty_iff] at h
  have hl : s.data.toList.length = s.size := Array.length_toList
  rw [h] at hl
  simp at hl
  omega
theorem entT_no {t k : Int} {b : ByteArray} (h : entB t k b = false) : entT t k b = ⟨#[]⟩ := by
  unfold entT
  rw [if_neg (by rw [h]; simp)]
  rfl
theorem confL_le (v l : List Int) : (confL v l).length ≤ 1000000000000 := by
  unfold confL
  split
  · rename_i hc
    obtain ⟨hv, hl, h7⟩ := confB_l hc
    obtain ⟨-, -, hv7⟩ := confB_v hc
    have lv := numL_len v hv
    have ll := numL_len l hl
    rw [List.length_append, List.length_cons]
    split
    · rw [List.length_nil]; omega
    · rw [List.length_cons, List.length_cons]; omega
  · rw [List.length_nil]; omega
theorem bcl2 {w w' : World} {B : Nat} (h : Below B w w') {g i : Nat} {v : Value} (hg : g < B) (hc : w.cell? ⟨g, i, none⟩ = some v) : w'.cell? ⟨g, i, none⟩ = some v := (h.cell (p := ⟨g, i, none⟩) hg).trans hc
theorem belDrew2 {B : Nat} {w w' : World} (h : Below B w w') : Below B w w'.drew := h.drew
theorem isB_keep {T e : TypeId} {B b : Nat} {bs : List Value} {w w' : World} (h : Lib.IsBuilder T e B b bs w) (hb : Below w.heap.size w w') : Lib.IsBuilder T e B b bs w' := by
  have key : ∀ p, Lib.BuilderAt T e B b p bs w → Lib.BuilderAt T e B b p bs w' := by
    intro p h
    have hl := h.lt
    obtain ⟨h1, v, h2, h3, h4⟩ := h
    refine ⟨h1, v, (hb.block b hl).trans h2, ⟨h3.1, ?_⟩, h4⟩
    have hlt := World.ownsRow.lt h3
    rcases h3.2 with ⟨a, c⟩ | ⟨g, cap, cur, rfl, c, d, r⟩
    · exact .inl ⟨a, c⟩
    · exact .inr ⟨g, cap, cur, rfl, c, (hb.block g (hlt g rfl).2).trans d, r⟩
  rcases h with h | h
  · exact .inl (key _ h)
  · exact .inr (key _ h)
end Plain

set_option maxHeartbeats 1000000 in
set_option maxRecDepth 100000 in
theorem copyCheckK_calls (B b : Nat) (bs : List Value) (w : World) (h : Lib.IsBuilder 52 5 B b bs w) :
    Calls Tryd.prog 42 #[.pointer (some ⟨b, 0, none⟩)] w fun e w' => e = .returned (.tuple #[]) ∧ (Lib.BuilderAt 52 5 B b (.pointer (some ⟨b, 0, none⟩)) bs w' ∧ Below B w w') ∧ ∀ g, g ≠ b → w'.heap[g]? = w.heap[g]? := by
  obtain ⟨j, hj, hjs⟩ := Option.map_eq_some_iff.1 sizeBld
  rcases h with h | h
  · have h0 := h.cell0
    have hsh := h.shape
    have hfz := h.frozen0
    have HH := hide h
    clear h
    go_enter Tryd.func42, Tryd.ntmps42
    go_wp2
    rw [Lib.run_to_unsafe w ⟨b, 0, none⟩ Tryd.underlying49 Tryd.underlying84 hj (by rw [hjs]; decide) hsh (Nat.zero_lt_succ 1)]
    simp only [Result.andThen]
    rw [Oper.upon_value]
    go_wp2
    rw [run_callFunc_extern Tryd.func53 (by kernel_rfl) (by kernel_rfl) (by kernel_rfl) (e := Extern.AbiNoEscape.same) (by kernel_rfl)]
    rw [Lib.run_noEscape]
    simp only [Result.andThen]
    rw [Oper.upon_value]
    go_wp2
    rw [Lib.run_from_unsafe w ⟨b, 0, none⟩ Tryd.underlying84 Tryd.underlying49 hj hsh liesBld]
    simp only [Result.andThen]
    rw [Oper.upon_value]
    go_wp2
    go_end0
    exact ⟨rfl, ⟨(unhide HH).used _, (Below.refl B w).setCell (p := ⟨b, 0, none⟩) (unhide HH).1 _⟩, fun g hg => Below.heap_setCell _ _ _ _ (fun e => hg (by simpa using e))⟩
  · have h0 := h.cell0
    have HH := hide h
    clear h
    go_enter Tryd.func42, Tryd.ntmps42
    go_wp2
    rw [Lib.run_neq_ptr_same w _ Tryd.underlying49 hj]
    go_wp2
    go_end0
    exact ⟨rfl, ⟨unhide HH, Below.refl B _⟩, fun _ _ => rfl⟩

set_option maxHeartbeats 1000000 in
set_option maxRecDepth 100000 in
theorem WriteStringK_calls (B b : Nat) (bs : List Value) (s : ByteArray) (w : World) (h : Lib.IsBuilder 52 5 B b bs w) (hlen : bs.length + s.size ≤ 100000000) (hBw : B ≤ w.heap.size) :
    Calls Tryd.prog 20 #[.pointer (some ⟨b, 0, none⟩), .string s] w fun e w' => e = .returned (.tuple #[.int .i64 s.size, .nilIface]) ∧ (Lib.BuilderAt 52 5 B b (.pointer (some ⟨b, 0, none⟩)) (bs ++ Lib.strCells s) w' ∧ Below B w w') ∧ ∀ g cs t f, g ≠ b → t ≠ 5 → w.heap[g]? = some (.cells cs t f) → w'.heap[g]? = some (.cells cs t f) := by
  obtain ⟨i0, hi, hz0, hz1, hz2⟩ := info_parts infoU8
  have HC := hide (copyCheckK_calls B b bs w h)
  clear h
  go_enter Tryd.func20, Tryd.ntmps20
  go_wp2_with fail
  refine (unhide HC).mono ?_
  rintro e w1 ⟨rfl, ⟨h1, hb1⟩, hk1⟩
  obtain ⟨hB, v, hbk, hown, hne⟩ := h1
  have c0 : w1.cell? ⟨b, 0, none⟩ = some (.pointer (some ⟨b, 0, none⟩)) := by rw [Lib.cell_of_heap hbk]; rfl
  have c1 : w1.cell? ⟨b, 1, none⟩ = some v := by rw [Lib.cell_of_heap hbk]; rfl
  have hz := hb1.size
  go_wp2_with (at_builtin; refine Lib.wpList_append_own_string _ rfl _ _ 50 9 rfl B 5 i0 Tryd.underlying50 Tryd.underlying9 hi hz0 hz1 hz2 _ _ _ rfl hown s rfl ?c3 ?c4 ?c5 ?_)
  case c3 => unfold maxLen; omega
  case c4 => omega
  case c5 => omega
  intro v' w2 hown2 hgrow _
  have hlt : b < w1.heap.size := by
    rcases Nat.lt_or_ge b w1.heap.size with h' | h'
    · exact h'
    · simp [Array.getElem?_eq_none h'] at hbk
  have hb2 : w2.heap[b]? = some (.cells #[.pointer (some ⟨b, 0, none⟩), v] 52 (0, 0)) := (hgrow.block b hlt (fun e => hne e.symm)).trans hbk
  have d0 : w2.cell? ⟨b, 0, none⟩ = some (.pointer (some ⟨b, 0, none⟩)) := by rw [Lib.cell_of_heap hb2]; rfl
  have d1 : w2.cell? ⟨b, 1, none⟩ = some v := by rw [Lib.cell_of_heap hb2]; rfl
  have f1 : w2.frozen? ⟨b, 1, none⟩ = false := Lib.frozen_of_heap hb2 1
  obtain ⟨ao, n2, cap, rfl⟩ : ∃ ao n2 cap, v' = .slice ao n2 cap := by
    rcases hown2.2 with ⟨hv, _⟩ | ⟨g, cap, cur, hv, _⟩
    · exact ⟨_, _, _, hv⟩
    · exact ⟨_, _, _, hv⟩
  go_wp2
  go_ret2
  refine ⟨rfl, ⟨Lib.BuilderAt.put (T := 52) (e := 5) hB hb2 (bs' := bs ++ Lib.strCells s) (by simpa [Lib.strCells_length] using hown2) (by decide), ?_⟩, ?_⟩
  · exact (hb1.grown hgrow (by omega) (fun k hk => (hown.lt k hk).1)).setCell (p := ⟨b, 1, none⟩) hB _
  · intro g cs t f hg ht hc
    have h1 := (hk1 g hg).trans hc
    have hl : g < w1.heap.size := by
      rcases Nat.lt_or_ge g w1.heap.size with h' | h'
      · exact h'
      · simp [Array.getElem?_eq_none h'] at h1
    rw [Below.heap_setCell _ _ _ _ (fun e => hg (by simpa using e)), hgrow.block g hl ?_, h1]
    intro e
    rcases hown.2 with ⟨hv, _⟩ | ⟨g2, cap2, cur2, hv, _, d, _⟩
    · rw [hv] at e; simp [Value.ownBlock] at e
    · rw [hv] at e
      have e2 : g2 = g := by simpa [Value.ownBlock] using e.symm
      subst e2
      rw [h1] at d
      have := Option.some.inj d
      simp at this
      exact ht this.2.1
end Go.Proofs.YtiakhgafibgpgaaDoor


/- The texts of messages, by the program: their numbers, their rows. -/
namespace Go.Proofs.YtiakhgafibgpgaaDoor
open Go.RowKit Plain
set_option linter.unusedVariables false

namespace Plain
def intV (ns : List Int) : List Value := ns.map fun z => .int .i64 z
/-- The block g holds the numbers ns. -/
def NumsAt (W : World) (g : Nat) (ns : List Int) : Prop := W.heap[g]? = some (.cells (intV ns).toArray 2 (0, 0))
theorem NumsAt.lt {W : World} {g : Nat} {ns : List Int} (h : NumsAt W g ns) : g < W.heap.size := by
  unfold NumsAt at h
  rcases Nat.lt_or_ge g W.heap.size with h' | h'
  · exact h'
  · simp [Array.getElem?_eq_none h'] at h
theorem NumsAt.keep {W W' : World} {g : Nat} {ns : List Int} (h : NumsAt W g ns) (hb : Below W.heap.size W W') : NumsAt W' g ns := (hb.block g h.lt).trans h
theorem NumsAt.cell {W : World} {g : Nat} {ns : List Int} (h : NumsAt W g ns) (k : Nat) (hk : k < ns.length) : W.cell? ⟨g, k, none⟩ = some (.int .i64 ns[k]) := by
  rw [Lib.cell_of_heap h]
  simp [intV, hk]
end Plain

/-- What numbersOf leaves. -/
def NumsPost (ns : List Int) (w : World) (e : Ending) (w' : World) : Prop := ∃ g, e = .returned (.slice (some ⟨g, 0, none⟩) 8 8) ∧ w.heap.size ≤ g ∧ NumsAt w' g ns ∧ Below w.heap.size w w'

set_option maxRecDepth 10000 in
set_option maxHeartbeats 2000000 in
theorem numbersOf_calls (kd fr tt tm ix lg cm : Int) (ok : Bool) (tx : ByteArray) (ae : Option Addr) (ne ce : Nat) (av : Option Addr) (nv cv : Nat) (al : Option Addr) (nl cl : Nat) (w : World) :
    Calls Tryd.prog 19 #[.agg #[.int .i64 kd, .int .i64 fr, .int .i64 tt, .int .i64 tm, .int .i64 ix, .int .i64 lg, .slice ae ne ce, .int .i64 cm, .bool ok, .string tx, .slice av nv cv, .slice al nl cl]] w (NumsPost (numsM kd fr tt tm ix lg cm ok) w) := by
  have HF := hide (fun (o : Obj) (C : Array Value) (hC : C = (intV (numsM kd fr tt tm ix lg cm ok)).toArray) => (show NumsPost (numsM kd fr tt tm ix lg cm ok) w (.returned (.slice (some ⟨w.heap.size + 1, 0, none⟩) 8 8)) ((w.alloc o).alloc (.cells C 2)) from ⟨w.heap.size + 1, rfl, by omega, by
    unfold NumsAt
    rw [hC]
    have := (MapKept.heap_alloc (w.alloc o) (.cells (intV (numsM kd fr tt tm ix lg cm ok)).toArray 2)).1
    simpa using this, belOn (bel1 _ _) (bel1 _ _)⟩))
  cases ok with
  | false =>
    go_enter Tryd.func19, Tryd.ntmps19
    go_wp2_with fail
    go_ret
    exact unhide HF _ _ rfl
  | true =>
    go_enter Tryd.func19, Tryd.ntmps19
    go_wp2_with fail
    go_ret
    exact unhide HF _ _ rfl

set_option maxHeartbeats 1000000 in
theorem numberOkM_calls (n : Int) (w : World) : Calls Tryd.prog 38 #[.int .i64 n] w fun e w' => e = .returned (.bool (numB n)) ∧ w = w' := by
  obtain ⟨R, hR⟩ : ∃ R, numB n = R := ⟨_, rfl⟩
  rw [hR]
  unfold numB at hR
  have HR := hide hR
  clear hR
  go_enter Tryd.func38, Tryd.ntmps38
  go_wp2_with fail
  all_goals go_ret
  all_goals refine ⟨?_, rfl⟩
  all_goals (show Ending.returned (.bool _) = Ending.returned (.bool _); rw [← unhide HR]; congr 2; rw [Bool.eq_iff_iff]; simp; try omega)

set_option maxRecDepth 10000 in
set_option maxHeartbeats 1000000 in
theorem msgOk1_calls (t k : Int) (b : ByteArray) (w : World) (hb : b.size ≤ 1000000000000) :
    Calls Tryd.prog 40 #[.agg #[.int .i64 t, .int .i64 k, .string b]] w fun e w' => e = .returned (.bool (!entB t k b)) ∧ Below w.heap.size w w' := by
  have HB := hide (bel1 w (.cells #[.int .i64 t, .int .i64 k, .string b] 45))
  have HR := hide (entryOk_calls t k b (w.alloc (.cells #[.int .i64 t, .int .i64 k, .string b] 45)) hb)
  go_enter Tryd.func40, Tryd.ntmps40
  go_wp2_with fail
  refine (unhide HR).mono ?_
  rintro e w1 ⟨rfl, hb1⟩
  have HB1 := hide (belOn (unhide HB) hb1)
  go_wp2_with fail
  go_ret
  exact ⟨rfl, unhide HB1⟩

namespace Plain
def smallE (es : List Ent) : Prop := ∀ e ∈ es, e.body.size ≤ 1000000000000
theorem entsB_step (es : List Ent) (k : Nat) (h : k < es.length) : entsB (es.drop k) = (entB es[k].term es[k].kind es[k].body && entsB (es.drop (k + 1))) := by rw [entsB, List.drop_eq_getElem_cons h, List.all_cons]; rfl
theorem entsB_end (es : List Ent) (k : Nat) (h : es.length ≤ k) : entsB (es.drop k) = true := by rw [List.drop_of_length_le h]; rfl
theorem numsB_step (ns : List Int) (k : Nat) (h : k < ns.length) : (ns.drop k).all numB = (numB ns[k] && (ns.drop (k + 1)).all numB) := by rw [List.drop_eq_getElem_cons h, List.all_cons]
theorem numsB_end (ns : List Int) (k : Nat) (h : ns.length ≤ k) : (ns.drop k).all numB = true := by rw [List.drop_of_length_le h]; rfl
end Plain

set_option maxRecDepth 10000 in
set_option maxHeartbeats 1000000 in
theorem indexE_calls (a : Option Addr) (n c : Nat) (es : List Ent) (w : World) (hn : es.length = n) (hn2 : n ≤ 1048576) (hsm : smallE es) (h : RowAt entE w a es) :
    Calls Tryd.prog 52 #[.slice a n c, .func (.func 40) #[] #[]] w fun e w' => ((e = .returned (.int .i64 (-1)) ∧ entsB es = true) ∨ ∃ k : Nat, e = .returned (.int .i64 k) ∧ entsB es = false) ∧ Below w.heap.size w w' := by
  have H := hide h
  have HN := hide hn
  have HSM := hide hsm
  clear h hn hsm
  go_enter Tryd.func52, Tryd.ntmps52
  go_wp2_with fail
  go_loopw [8] (fun i wr => ∃ k : Nat, i = .int .i64 k ∧ k ≤ n ∧ Hid (entsB es = entsB (es.drop k)) ∧ Hid (Below w.heap.size w wr)) (fun i _ => n - (intOf i).toNat)
  case atStart => exact ⟨0, rfl, by omega, hide (by rw [List.drop_zero]), hide (Below.refl _ _)⟩
  case round =>
    obtain ⟨k, rfl, hk, HV, HB⟩ := hrel
    by_cases hlk : k < n
    · have hkl : k < es.length := by rw [unhide HN]; exact hlk
      obtain ⟨g, e1, l1, p0, p1, p2⟩ := ((unhide H).below (unhide HB)).ex k hkl
      have HS := (unhide HV).trans (entsB_step es k hkl)
      have hsz := unhide HSM es[k] (by simp)
      generalize es[k] = x at p0 p1 p2 HS hsz
      obtain ⟨tm, kd, bd⟩ := x
      simp only at p0 p1 p2 HS hsz
      have HCL := hide (fun W => msgOk1_calls tm kd bd W hsz)
      obtain ⟨t, ht⟩ : ∃ t, entB tm kd bd = t := ⟨_, rfl⟩
      rw [ht] at HCL HS
      have HS2 := hide HS
      clear HV ht HS hsz hkl
      subst e1
      have i0 : (0 : Int) ≤ (k : Int) := by omega
      have i1 : (k : Int) < (n : Int) := by omega
      cases t with
      | false =>
        go_wp2_with (go_at_call 40; refine (unhide HCL _).mono ?_; rintro e w1 ⟨rfl, hb1⟩)
        go_ret
        exact ⟨.inr ⟨k, rfl, by rw [unhide HS2]; rfl⟩, belOn (unhide HB) hb1⟩
      | true =>
        rw [Bool.true_and] at HS2
        go_wp2_with (go_at_call 40; refine (unhide HCL _).mono ?_; rintro e w1 ⟨rfl, hb1⟩)
        go_roundw
        case rel => exact ⟨k + 1, by go_num, by omega, HS2, hide (belOn (unhide HB) hb1)⟩
        case measure => simp [intOf]; omega
    · have HF := hide ((unhide HV).trans (entsB_end es k (by rw [unhide HN]; omega)))
      go_wp2_with fail
      go_ret
      exact ⟨.inl ⟨rfl, unhide HF⟩, unhide HB⟩

set_option maxRecDepth 10000 in
set_option maxHeartbeats 1000000 in
theorem containsE_calls (a : Option Addr) (n c : Nat) (es : List Ent) (w : World) (hn : es.length = n) (hn2 : n ≤ 1048576) (hsm : smallE es) (h : RowAt entE w a es) :
    Calls Tryd.prog 39 #[.slice a n c, .func (.func 40) #[] #[]] w fun e w' => e = .returned (.bool (!entsB es)) ∧ Below w.heap.size w w' := by
  have HI := hide (indexE_calls a n c es w hn hn2 hsm h)
  clear h hsm hn
  go_enter Tryd.func39, Tryd.ntmps39
  go_wp2_with fail
  refine (unhide HI).mono ?_
  rintro e w1 ⟨he, hb1⟩
  have HB := hide hb1
  clear hb1
  rcases he with ⟨rfl, hv⟩ | ⟨k, rfl, hv⟩
  · have HV := hide hv
    clear hv
    go_wp2_with fail
    go_ret
    exact ⟨by rw [unhide HV]; rfl, unhide HB⟩
  · have HV := hide hv
    clear hv
    have i0 : (0 : Int) ≤ (k : Int) := by omega
    go_wp2_with fail
    go_ret
    exact ⟨by rw [unhide HV]; rfl, unhide HB⟩

set_option maxRecDepth 10000 in
set_option maxHeartbeats 4000000 in
theorem msgOk_calls (kd fr tt tm ix lg cm : Int) (ok : Bool) (tx : ByteArray) (ae : Option Addr) (ne ce : Nat) (es : List Ent) (av : Option Addr) (nv cv : Nat) (al : Option Addr) (nl cl : Nat) (w : World) (htx : tx.size ≤ 1000000000) (hn : es.length = ne) (hn2 : ne ≤ 1048576) (hsm : smallE es) (h : RowAt entE w ae es) :
    Calls Tryd.prog 18 #[.agg #[.int .i64 kd, .int .i64 fr, .int .i64 tt, .int .i64 tm, .int .i64 ix, .int .i64 lg, .slice ae ne ce, .int .i64 cm, .bool ok, .string tx, .slice av nv cv, .slice al nl cl]] w fun e w' => e = .returned (.bool (msgB (numsM kd fr tt tm ix lg cm ok) tx es)) ∧ Below w.heap.size w w' := by
  obtain ⟨W0, hW0⟩ : ∃ W0, W0 = w.alloc (.cells #[.int .i64 kd, .int .i64 fr, .int .i64 tt, .int .i64 tm, .int .i64 ix, .int .i64 lg, .slice ae ne ce, .int .i64 cm, .bool ok, .string tx, .slice av nv cv, .slice al nl cl] 33) := ⟨_, rfl⟩
  have hb0 : Below w.heap.size w W0 := by rw [hW0]; exact bel1 _ _
  have B0 : Blk W0 w.heap.size [.int .i64 kd, .int .i64 fr, .int .i64 tt, .int .i64 tm, .int .i64 ix, .int .i64 lg, .slice ae ne ce, .int .i64 cm, .bool ok, .string tx, .slice av nv cv, .slice al nl cl] := by rw [hW0]; exact Blk.new w _ _
  have HC := hide (fun (W : World) (hW : Below W0.heap.size W0 W) => And.intro ((B0.call hW).c 6 (by simp)) ((B0.call hW).c 9 (by simp)))
  have HFIN := hide (fun (W : World) (hW : Below W0.heap.size W0 W) => belOn hb0 hW)
  have HNO := hide (numbersOf_calls kd fr tt tm ix lg cm ok tx ae ne ce av nv cv al nl cl W0)
  have HCO := hide (fun (W : World) (hW : Below W0.heap.size W0 W) => containsE_calls ae ne ce es W hn hn2 hsm (h.below (belOn hb0 hW)))
  have HW0 := hide hW0.symm
  have hl8 : (numsM kd fr tt tm ix lg cm ok).length = 8 := rfl
  generalize numsM kd fr tt tm ix lg cm ok = ns at HNO hl8
  obtain ⟨R, hR⟩ : ∃ R, msgB ns tx es = R := ⟨_, rfl⟩
  rw [hR]
  unfold msgB at hR
  rw [hn] at hR
  have HR := hide hR
  have HL8 := hide hl8
  obtain ⟨E, hE⟩ : ∃ E, entsB es = E := ⟨_, rfl⟩
  rw [hE] at HR HCO
  clear hb0 hW0 B0 h hn hsm hR hE hl8
  go_enter Tryd.func18, Tryd.ntmps18
  go_wp2_with fail
  rw [unhide HW0]
  refine (unhide HNO).mono ?_
  rintro e w1 ⟨g, rfl, hg, hN1, hb1⟩
  have HN1 := hide hN1
  have HB1 := hide hb1
  clear hN1 hb1
  go_wp2_with fail
  go_loopw [8] (fun i wr => ∃ k : Nat, i = .int .i64 k ∧ k ≤ 8 ∧ Hid (ns.all numB = (ns.drop k).all numB) ∧ wr = w1) (fun i _ => 8 - (intOf i).toNat)
  case atStart => exact ⟨0, rfl, by omega, hide (by rw [List.drop_zero]), rfl⟩
  case round =>
    obtain ⟨k, rfl, hk, HV, rfl⟩ := hrel
    by_cases hk8 : k < 8
    · have hkl : k < ns.length := by rw [unhide HL8]; exact hk8
      have p0 := (unhide HN1).cell k hkl
      have HS := (unhide HV).trans (numsB_step ns k hkl)
      generalize ns[k] = x at p0 HS
      have HCL := hide (fun W => numberOkM_calls x W)
      obtain ⟨t, ht⟩ : ∃ t, numB x = t := ⟨_, rfl⟩
      rw [ht] at HCL HS
      have HS2 := hide HS
      clear HV ht HS hkl
      have i0 : (0 : Int) ≤ (k : Int) := by omega
      have i1 : (k : Int) < (8 : Int) := by omega
      cases t with
      | false =>
        go_wp2_with (go_at_call 38; refine (unhide HCL _).mono ?_; rintro e w2 ⟨rfl, rfl⟩)
        go_ret
        exact ⟨by rw [← unhide HR, unhide HS2]; simp, unhide HFIN _ (unhide HB1)⟩
      | true =>
        rw [Bool.true_and] at HS2
        go_wp2_with (go_at_call 38; refine (unhide HCL _).mono ?_; rintro e w2 ⟨rfl, rfl⟩)
        go_roundw
        case rel => exact ⟨k + 1, by go_num, by omega, HS2, by first | rfl | trivial⟩
        case measure => simp [intOf]; omega
    · obtain rfl : k = 8 := by omega
      have HF := (unhide HV).trans (numsB_end ns 8 (by rw [unhide HL8]; exact Nat.le_refl _))
      have HR2 := unhide HR
      rw [HF] at HR2
      have HR3 := hide HR2
      clear HF HR2 HV HR
      obtain ⟨q6, q9⟩ := unhide HC _ (unhide HB1)
      by_cases ht : 20000 < tx.size
      · have ht2 : (20000 : Int) < (tx.size : Int) := by omega
        have HF := hide (show R = false from by rw [← unhide HR3]; simp; omega)
        clear ht
        go_wp2_with fail
        go_ret
        exact ⟨by rw [unhide HF]; rfl, unhide HFIN _ (unhide HB1)⟩
      · have ht2 : ¬ (20000 : Int) < (tx.size : Int) := by omega
        by_cases h8 : 8 < ne
        · have h82 : (8 : Int) < (ne : Int) := by omega
          have HF := hide (show R = false from by rw [← unhide HR3]; simp; omega)
          clear ht h8
          go_wp2_with fail
          go_ret
          exact ⟨by rw [unhide HF]; rfl, unhide HFIN _ (unhide HB1)⟩
        · have h82 : ¬ (8 : Int) < (ne : Int) := by omega
          have HF := hide (show R = E from by rw [← unhide HR3]; simp; omega)
          clear ht h8
          go_wp2_with fail
          refine (unhide HCO _ (unhide HB1)).mono ?_
          rintro e w2 ⟨rfl, hb2⟩
          have HB2 := hide (belOn (unhide HB1) hb2)
          clear hb2
          go_wp2_with fail
          go_ret
          exact ⟨by rw [unhide HF]; simp, unhide HFIN _ (unhide HB2)⟩
end Go.Proofs.YtiakhgafibgpgaaDoor


/- The texts of messages, by the program. -/
namespace Go.Proofs.YtiakhgafibgpgaaDoor
open Go.RowKit Plain
set_option linter.unusedVariables false

theorem Plain.strAddM {a b : ByteArray} (W : World) (h : a.size + b.size ≤ 1000000000000) : (Op.stringOp .add a b).run Tryd.prog W = .ok (.string (a ++ b)) W := by
  have h1 : ¬ ((a.size + b.size : Nat) : Int) > IntKind.i64.max := by rw [show IntKind.i64.max = 9223372036854775807 from rfl]; omega
  unfold Op.stringOp
  simp only [if_neg h1]
  rfl
theorem Plain.entT_size (t k : Int) (b : ByteArray) : (entT t k b).size ≤ 1000000000000 := by
  unfold entT
  split
  · rename_i h
    have hs := entB_sizes h
    unfold frameB
    split
    · rw [ByteArray.size_append, seal_size, four_size]; omega
    · decide
  · decide

set_option maxRecDepth 10000 in
set_option maxHeartbeats 1000000 in
theorem msgText1_calls (t k : Int) (b : ByteArray) (w : World) (hb : b.size ≤ 1000000000000) :
    Calls Tryd.prog 25 #[.agg #[.int .i64 t, .int .i64 k, .string b]] w fun e w' => e = .returned (.string (putT (entT t k b))) ∧ Below w.heap.size w w' := by
  have HB := hide (bel1 w (.cells #[.int .i64 t, .int .i64 k, .string b] 45))
  have HR := hide (impl_EntryText t k b (w.alloc (.cells #[.int .i64 t, .int .i64 k, .string b] 45)) hb)
  have HP := hide (fun W => impl_PutText (entT t k b) W (entT_size t k b))
  generalize putT (entT t k b) = P at HP
  generalize entT t k b = T at HR HP
  go_enter Tryd.func25, Tryd.ntmps25
  go_wp2_with fail
  refine (unhide HR).mono ?_
  rintro e w1 ⟨rfl, hb1⟩
  have HB1 := hide (belOn (unhide HB) hb1)
  clear hb1
  go_wp2_with fail
  refine (unhide HP _).mono ?_
  rintro e w2 ⟨rfl, hb2⟩
  have HB2 := hide (belOn (unhide HB1) hb2)
  clear hb2
  go_wp2_with fail
  go_ret
  exact ⟨rfl, unhide HB2⟩

set_option maxRecDepth 10000 in
set_option maxHeartbeats 2000000 in
theorem rowsText_calls (a : Option Addr) (n c : Nat) (es : List Ent) (w : World) (hn : es.length = n) (hn2 : n ≤ 8) (hsm : smallE es) (h : RowAt entE w a es) :
    Calls Tryd.prog 24 #[.slice a n c, .func (.func 25) #[] #[]] w fun e w' => e = .returned (.string (strL (rowsL es))) ∧ Below w.heap.size w w' := by
  obtain ⟨W0, hW0⟩ : ∃ W0, W0 = w.alloc (.cells #[.pointer none, .slice none 0 0] 52) := ⟨_, rfl⟩
  have hb0 : Below w.heap.size w W0 := by rw [hW0]; exact bel1 _ _
  have HF := hide (show Lib.IsBuilder 52 5 w.heap.size w.heap.size [] W0 from by rw [hW0]; exact Lib.fresh_isBuilder _ _ w)
  have HB0 := hide hb0
  have HD := hide (fun (W : World) (hW : Below w.heap.size w W) => h.below hW)
  have HW0 := hide hW0.symm
  have HN := hide hn
  have HSM := hide hsm
  have HPN := hide (fun W => impl_PutNumber (n : Int) W)
  have HPL := hide (show Lib.strCells (putS (n : Int)) = Lib.byteCells (pnL (n : Int)) from rfl)
  have hps : (putS (n : Int)).size ≤ 6 := putS_size _
  have HPL2 := hide (show (pnL (n : Int)).length ≤ 6 from pnL_len _)
  have HFI := hide (show strL (pnL (n : Int) ++ catE es) = strL (rowsL es) from by unfold rowsL; rw [hn])
  generalize putS (n : Int) = P at HPN hps HPL
  generalize pnL (n : Int) = L at HPL HPL2 HFI
  generalize strL (rowsL es) = FIN at HFI
  clear h hb0 hW0 hn hsm
  go_enter Tryd.func24, Tryd.ntmps24
  go_wp2_with fail
  rw [unhide HW0]
  refine (unhide HPN W0).mono ?_
  rintro e w1 ⟨rfl, hb1⟩
  have hF1 := isB_keep (unhide HF) hb1
  have hB1 := (unhide HB0).trans (hb1.mono (unhide HB0).size)
  have HWS := hide (WriteString_calls w.heap.size w.heap.size _ P w1 hF1 (by simp; omega) hB1.size)
  have HB1 := hide hB1
  clear hb1 hF1 hB1 HF
  go_wp2_with fail
  refine (unhide HWS).mono ?_
  rintro e w2 ⟨rfl, hF2, hb2⟩
  have HF2 := hide (show Lib.IsBuilder 52 5 w.heap.size w.heap.size (Lib.byteCells (L ++ catE (es.take 0))) w2 from .inr (by rw [show L ++ catE (es.take 0) = L from by simp [catE], ← unhide HPL]; simpa using hF2))
  have HB2 := hide ((unhide HB1).trans hb2)
  clear hF2 hb2 HWS HB1 HPL
  go_wp2_with fail
  go_loopw [14] (fun i wr => ∃ k : Nat, i = .int .i64 k ∧ k ≤ n ∧ Hid (Lib.IsBuilder 52 5 w.heap.size w.heap.size (Lib.byteCells (L ++ catE (es.take k))) wr) ∧ Hid (Below w.heap.size w wr)) (fun i _ => n - (intOf i).toNat)
  case atStart => exact ⟨0, rfl, by omega, HF2, HB2⟩
  case round =>
    clear HF2 HB2
    obtain ⟨k, rfl, hk, HF, HB⟩ := hrel
    by_cases hkn : k < n
    · have hkl : k < es.length := by rw [unhide HN]; exact hkn
      obtain ⟨g, e1, l1, p0, p1, p2⟩ := (unhide HD _ (unhide HB)).ex k hkl
      have hst := catE_take es k hkl
      have hsz := unhide HSM es[k] (by simp)
      have hl := catE_len (es.take k)
      have hl2 : (es.take k).length ≤ 8 := by rw [List.length_take]; omega
      generalize es[k] = x at p0 p1 p2 hst hsz
      obtain ⟨tm, kd, bd⟩ := x
      simp only at p0 p1 p2 hsz
      unfold entPL at hst
      simp only at hst
      have hpt := putT_le2 (entT tm kd bd)
      have hpe : (putT (entT tm kd bd)).data.toList = txtL (entT tm kd bd) := rfl
      have HCL := hide (fun W => msgText1_calls tm kd bd W hsz)
      have hz := (unhide HB).size
      have HPL := hide (unhide HPL2)
      subst e1
      have i0 : (0 : Int) ≤ (k : Int) := by omega
      have i1 : (k : Int) < (n : Int) := by omega
      have HST := hide (show Lib.byteCells (L ++ catE (es.take k)) ++ Lib.strCells (putT (entT tm kd bd)) = Lib.byteCells (L ++ catE (es.take (k + 1))) from by rw [hst, Lib.strCells_eq, hpe]; simp only [Lib.byteCells_append, List.append_assoc])
      have HWS := hide (fun (W : World) (hW : Below wr.heap.size wr W) => WriteString_calls w.heap.size w.heap.size _ (putT (entT tm kd bd)) W (isB_keep (unhide HF) hW) (by rw [Lib.byteCells_length, List.length_append]; have := unhide HPL; omega) (Nat.le_trans hz hW.size))
      rw [unhide HST] at HWS
      generalize putT (entT tm kd bd) = tx at HWS HCL
      clear hst hpe hpt HST hsz hl hl2 HPL HPL2
      go_wp2_with (first
        | (go_at_call 25; refine (unhide HCL _).mono ?_; rintro e w1 ⟨rfl, hb1⟩)
        | (go_at_call 20; refine (unhide HWS _ (belOn (bel1 _ _) hb1)).mono ?_; rintro e w2 ⟨rfl, hF2, hb2⟩))
      have HF2 := hide (show Lib.IsBuilder 52 5 w.heap.size w.heap.size (Lib.byteCells (L ++ catE (es.take (k + 1)))) w2 from .inr hF2)
      have HB2 := hide (((unhide HB).trans ((belOn (bel1 _ _) hb1).mono hz)).trans hb2)
      clear hF2 hb2 hb1
      go_roundw
      case rel => exact ⟨k + 1, by go_num, by omega, HF2, HB2⟩
      case measure => simp [intOf]; omega
    · obtain rfl : k = n := by omega
      have hz := (unhide HB).size
      have HS := hide (BString_calls w.heap.size w.heap.size _ wr (unhide HF) hz)
      rw [List.take_of_length_le (by rw [unhide HN]; exact Nat.le_refl _)] at HS
      rw [show (⟨(L ++ catE es).toArray⟩ : ByteArray) = strL (L ++ catE es) from rfl, unhide HFI] at HS
      clear HF
      go_wp2_with fail
      refine (unhide HS).mono ?_
      rintro e w2 ⟨rfl, hb2⟩
      have HB2 := hide ((unhide HB).trans hb2)
      clear hb2
      go_wp2_with fail
      go_ret
      exact ⟨rfl, unhide HB2⟩

set_option maxRecDepth 10000 in
set_option maxHeartbeats 4000000 in
theorem impl_MsgText (kd fr tt tm ix lg cm : Int) (ok : Bool) (tx : ByteArray) (ae : Option Addr) (ne ce : Nat) (es : List Ent) (av : Option Addr) (nv cv : Nat) (v : List Int) (al : Option Addr) (nl cl : Nat) (l : List Int) (w : World) (htx : tx.size ≤ 1000000000) (hn : es.length = ne) (hn2 : ne ≤ 1048576) (hsm : smallE es) (h : RowAt entE w ae es) (hc : ConfAt w av nv v al nl l) :
    Calls Tryd.prog 7 #[.agg #[.int .i64 kd, .int .i64 fr, .int .i64 tt, .int .i64 tm, .int .i64 ix, .int .i64 lg, .slice ae ne ce, .int .i64 cm, .bool ok, .string tx, .slice av nv cv, .slice al nl cl]] w fun e w' => e = .returned (.string (strL (msgL (numsM kd fr tt tm ix lg cm ok) tx es v l))) ∧ Below w.heap.size w w' := by
  obtain ⟨W0, hW0⟩ : ∃ W0, W0 = w.alloc (.cells #[.int .i64 kd, .int .i64 fr, .int .i64 tt, .int .i64 tm, .int .i64 ix, .int .i64 lg, .slice ae ne ce, .int .i64 cm, .bool ok, .string tx, .slice av nv cv, .slice al nl cl] 33) := ⟨_, rfl⟩
  have hb0 : Below w.heap.size w W0 := by rw [hW0]; exact bel1 _ _
  have B0 : Blk W0 w.heap.size [.int .i64 kd, .int .i64 fr, .int .i64 tt, .int .i64 tm, .int .i64 ix, .int .i64 lg, .slice ae ne ce, .int .i64 cm, .bool ok, .string tx, .slice av nv cv, .slice al nl cl] := by rw [hW0]; exact Blk.new w _ _
  have HFIN := hide (fun (W : World) (hW : Below W0.heap.size W0 W) => belOn hb0 hW)
  have HMO := hide (msgOk_calls kd fr tt tm ix lg cm ok tx ae ne ce es av nv cv al nl cl W0 htx hn hn2 hsm (h.below hb0))
  have HNO := hide (fun (W : World) => numbersOf_calls kd fr tt tm ix lg cm ok tx ae ne ce av nv cv al nl cl W)
  have HCT := hide (fun (W : World) (hW : Below W0.heap.size W0 W) => impl_ConfText av nv cv v al nl cl l W (hc.below (belOn hb0 hW)))
  have HRW := hide (fun (W : World) (hW : Below W0.heap.size W0 W) => h.below (belOn hb0 hW))
  have HB := hide (fun (W : World) (hW : Below W0.heap.size W0 W) => B0.call hW)
  have HPT := hide (fun (W : World) => impl_PutText tx W (by omega))
  have HPC := hide (fun (W : World) => impl_PutText (strL (confL v l)) W (by rw [strL_size]; exact confL_le v l))
  have HW0 := hide hW0.symm
  have hl8 : (numsM kd fr tt tm ix lg cm ok).length = 8 := rfl
  generalize numsM kd fr tt tm ix lg cm ok = ns at HMO HNO hl8
  have HL8 := hide hl8
  have s1 := putT_le2 tx
  have s2 := putT_le2 (strL (confL v l))
  unfold msgL
  cases hm : msgB ns tx es with
  | false =>
    rw [hm] at HMO
    rw [if_neg (by simp)]
    clear hb0 hW0 B0 h hc hn hsm hl8 hm
    go_enter Tryd.func7, Tryd.ntmps7
    go_wp2_with fail
    rw [unhide HW0]
    refine (unhide HMO).mono ?_
    rintro e w1 ⟨rfl, hb1⟩
    have HB1 := hide (unhide HFIN _ hb1)
    clear hb1
    go_wp2_with fail
    go_ret
    exact ⟨rfl, unhide HB1⟩
  | true =>
    rw [hm] at HMO
    rw [if_pos rfl]
    have hne8 : ne ≤ 8 := by unfold msgB at hm; simp at hm; omega
    have HRT := hide (fun (W : World) (hW : Below W0.heap.size W0 W) => rowsText_calls ae ne ce es W hn hne8 hsm (unhide HRW W hW))
    have hrl : (rowsL es).length ≤ 900000 := by
      unfold rowsL
      rw [List.length_append]
      have := pnL_len (es.length : Int)
      have := catE_len es
      omega
    have HRL := hide hrl
    obtain ⟨FIN, hFIN⟩ : ∃ F, strL (catN ns ++ (txtL tx ++ txtL (strL (confL v l))) ++ rowsL es) = F := ⟨_, rfl⟩
    rw [hFIN]
    have hq1 : (putT tx).data.toList = txtL tx := rfl
    have hq2 : (putT (strL (confL v l))).data.toList = txtL (strL (confL v l)) := rfl
    obtain ⟨T1, hT1⟩ : ∃ T, putT tx = T := ⟨_, rfl⟩
    obtain ⟨T2, hT2⟩ : ∃ T, putT (strL (confL v l)) = T := ⟨_, rfl⟩
    rw [hT1] at HPT s1 hq1
    rw [hT2] at HPC s2 hq2
    rw [← hq1, ← hq2] at hFIN
    generalize strL (confL v l) = CT at HCT HPC
    have hadd := fun W => strAddM (a := T1) (b := T2) W (by omega)
    have HT12 := hide (show (T1 ++ T2).size ≤ 200000 from by rw [ByteArray.size_append]; omega)
    have HCE := hide (show Lib.strCells (T1 ++ T2) = Lib.byteCells (T1.data.toList ++ T2.data.toList) from by rw [Lib.strCells_eq]; simp)
    have HFN := hide hFIN
    generalize T1 ++ T2 = T12 at hadd HT12 HCE
    clear hb0 hW0 B0 h hc hn hsm hl8 hm hT1 hT2 hq1 hq2 hFIN s1 s2 HRW hrl
    go_enter Tryd.func7, Tryd.ntmps7
    go_wp2_with fail
    rw [unhide HW0]
    refine (unhide HMO).mono ?_
    rintro e w1 ⟨rfl, hb1⟩
    have HB1 := hide hb1
    have Q1 := (unhide HB) _ hb1
    obtain ⟨W2, hW2⟩ : ∃ W2, W2 = w1.alloc (.cells #[.pointer none, .slice none 0 0] 52) := ⟨_, rfl⟩
    have hb2 : Below w1.heap.size w1 W2 := by rw [hW2]; exact bel1 _ _
    have HF2 := hide (show Lib.IsBuilder 52 5 w1.heap.size w1.heap.size [] W2 from by rw [hW2]; exact Lib.fresh_isBuilder _ _ w1)
    have Q2 := Q1.call hb2
    have hz2 : W2.heap.size = w1.heap.size + 1 := by rw [hW2]; simp
    have HZ2 := hide hz2
    have hlt : w.heap.size < w1.heap.size := Q1.lt
    have HB2 := hide (belOn hb1 hb2)
    have HBW := hide hb2
    have HQ2 := hide Q2
    have c0 := Q2.c 0 (by simp)
    have c1 := Q2.c 1 (by simp)
    have c2 := Q2.c 2 (by simp)
    have c3 := Q2.c 3 (by simp)
    have c4 := Q2.c 4 (by simp)
    have c5 := Q2.c 5 (by simp)
    have c6 := Q2.c 6 (by simp)
    have c7 := Q2.c 7 (by simp)
    have c8 := Q2.c 8 (by simp)
    have c9 := Q2.c 9 (by simp)
    have c10 := Q2.c 10 (by simp)
    have c11 := Q2.c 11 (by simp)
    simp only [List.getElem_cons_zero, List.getElem_cons_succ] at c0 c1 c2 c3 c4 c5 c6 c7 c8 c9 c10 c11
    rw [hW2] at c0 c1 c2 c3 c4 c5 c6 c7 c8 c9 c10 c11
    have HW2 := hide hW2.symm
    clear hb1 Q1 hb2 Q2 hW2 hz2
    go_wp2_with fail
    rw [unhide HW2]
    refine (unhide HNO W2).mono ?_
    rintro e w3 ⟨g, rfl, hg, hN3, hb3⟩
    have HN3 := hide hN3
    have HG := hide (show g ≠ w1.heap.size from by have := unhide HZ2; omega)
    have HB3 := hide ((unhide HBW).trans (hb3.mono (unhide HBW).size))
    have HF3 := hide (isB_keep (unhide HF2) hb3)
    have HE3 := hide (show Lib.IsBuilder 52 5 w1.heap.size w1.heap.size (Lib.byteCells (catN (ns.take 0))) w3 from by simpa [catN, Lib.byteCells] using isB_keep (unhide HF2) hb3)
    clear hb3 hN3 hg c0 c1 c2 c3 c4 c5 c6 c7 c8 c9 c10 c11 HF2 HF3
    go_wp2_with fail
    go_loopw [12] (fun i wr => ∃ k : Nat, i = .int .i64 k ∧ k ≤ 8 ∧ Hid (NumsAt wr g ns) ∧ Hid (Lib.IsBuilder 52 5 w1.heap.size w1.heap.size (Lib.byteCells (catN (ns.take k))) wr) ∧ Hid (Below w1.heap.size w1 wr)) (fun i _ => 8 - (intOf i).toNat)
    case atStart => exact ⟨0, rfl, by omega, HN3, HE3, HB3⟩
    case round =>
      clear HN3 HE3 HB3
      obtain ⟨k, rfl, hk, HN, HF, HBR⟩ := hrel
      by_cases hk8 : k < 8
      · have hkl : k < ns.length := by rw [unhide HL8]; exact hk8
        have p0 := (unhide HN).cell k hkl
        have hst := catN_take ns k hkl
        have hl := catN_len (ns.take k)
        have hl2 : (ns.take k).length ≤ 8 := by rw [List.length_take]; omega
        generalize ns[k] = x at p0 hst
        have HPN := hide (fun W => impl_PutNumber x W)
        have hps : (putS x).size ≤ 6 := putS_size x
        have hpe : (putS x).data.toList = pnL x := rfl
        have hz := (unhide HBR).size
        have HST := hide (show Lib.byteCells (catN (ns.take k)) ++ Lib.strCells (putS x) = Lib.byteCells (catN (ns.take (k + 1))) from by rw [hst, Lib.strCells_eq, hpe]; simp only [Lib.byteCells_append])
        have HWS := hide (fun (W : World) (hW : Below wr.heap.size wr W) => WriteStringK_calls w1.heap.size w1.heap.size _ (putS x) W (isB_keep (unhide HF) hW) (by rw [Lib.byteCells_length]; omega) (Nat.le_trans hz hW.size))
        rw [unhide HST] at HWS
        generalize putS x = tn at HWS HPN
        clear hst hpe hps HST hl hl2 hkl
        have i0 : (0 : Int) ≤ (k : Int) := by omega
        have i1 : (k : Int) < (8 : Int) := by omega
        go_wp2_with (first
          | (go_at_call 21; refine (unhide HPN _).mono ?_; rintro e w4 ⟨rfl, hb4⟩)
          | (go_at_call 20; refine (unhide HWS _ hb4).mono ?_; rintro e w5 ⟨rfl, ⟨hF5, hb5⟩, hk5⟩))
        have HF5 := hide (show Lib.IsBuilder 52 5 w1.heap.size w1.heap.size (Lib.byteCells (catN (ns.take (k + 1)))) w5 from .inr hF5)
        have HN5 := hide (show NumsAt w5 g ns from hk5 g _ _ _ (unhide HG) (by decide) ((unhide HN).keep hb4))
        have HB5 := hide (((unhide HBR).trans (hb4.mono hz)).trans hb5)
        clear hF5 hb5 hb4 hk5
        go_roundw
        case rel => exact ⟨k + 1, by go_num, by omega, HN5, HF5, HB5⟩
        case measure => simp [intOf]; omega
      · obtain rfl : k = 8 := by omega
        have hF := unhide HF
        rw [List.take_of_length_le (by rw [unhide HL8]; exact Nat.le_refl _)] at hF
        have HF8 := hide hF
        have hln := catN_len ns
        rw [unhide HL8] at hln
        have HLN := hide hln
        have hz := (unhide HBR).size
        have HZ := hide hz
        have HBK := hide (fun (W : World) (hW : Below w1.heap.size w1 W) => (unhide HQ2).lt)
        have HQW := hide (fun (W : World) (hW : Below w1.heap.size w1 W) => And.intro (bcl2 hW hlt ((unhide HB _ (unhide HB1)).c 6 (by simp))) (And.intro (bcl2 hW hlt ((unhide HB _ (unhide HB1)).c 9 (by simp))) (And.intro (bcl2 hW hlt ((unhide HB _ (unhide HB1)).c 10 (by simp))) (bcl2 hW hlt ((unhide HB _ (unhide HB1)).c 11 (by simp))))))
        obtain ⟨q6, q9, q10, q11⟩ := unhide HQW _ (unhide HBR)
        have G9 := fun (V : World) (hV : Below w1.heap.size w1 V) => (unhide HQW V hV).2.1
        have G10 := fun (V : World) (hV : Below w1.heap.size w1 V) => (unhide HQW V hV).2.2.1
        have G11 := fun (V : World) (hV : Below w1.heap.size w1 V) => (unhide HQW V hV).2.2.2
        have HW0B := hide (fun (V : World) (hV : Below w1.heap.size w1 V) => (unhide HB1).trans (hV.mono (unhide HB1).size))
        have HWS := hide (fun (W : World) (hW : Below wr.heap.size wr W) => WriteString_calls w1.heap.size w1.heap.size _ T12 W (isB_keep (unhide HF8) hW) (by rw [Lib.byteCells_length]; have := unhide HLN; have := unhide HT12; omega) (Nat.le_trans (unhide HZ) hW.size))
        rw [unhide HCE, ← Lib.byteCells_append] at HWS
        clear hF hln HF HN q6 q9 q10 q11 hz HQ2 HBK
        go_wp2_with fail
        go_region_held3 (fun w' => Below w1.heap.size w1 w') (first | exact BB4 | exact BB3 | exact BB2 | exact BB1 | exact belDrew2 (unhide HBR) | exact (by assumption)) (first
          | (go_at_call_of 22 tx; refine (unhide HPT _).mono ?_; rintro e x1 ⟨rfl, hx1⟩; have BB1 := (belDrew2 (unhide HBR)).trans (hx1.mono (unhide HZ)))
          | (go_at_call 23; refine (unhide HCT _ (unhide HW0B _ BB1)).mono ?_; rintro e x2 ⟨rfl, hx2⟩; have BB2 := BB1.trans (hx2.mono BB1.size))
          | (go_at_call_of 22 CT; refine (unhide HPC _).mono ?_; rintro e x3 ⟨rfl, hx3⟩; have BB3 := BB2.trans (hx3.mono BB2.size))
          | (go_at_call 20; refine (unhide HWS _ (belOn (belOn (bOfDrew hx1) hx2) hx3)).mono ?_; rintro e x4 ⟨rfl, hF4, hb4⟩; have BB4 := BB3.trans hb4))
        have q6 := (unhide HQW _ BB4).1
        simp only [List.getElem_cons_zero, List.getElem_cons_succ] at q6
        have HBB4 := hide BB4
        have HF4 := hide (show Lib.IsBuilder 52 5 w1.heap.size w1.heap.size (Lib.byteCells (catN ns ++ (T1.data.toList ++ T2.data.toList))) x4 from .inr hF4)
        have hlt4 : (T1.data.toList ++ T2.data.toList).length ≤ 200000 := by
          have h1 := congrArg List.length (unhide HCE)
          rw [Lib.strCells_length, Lib.byteCells_length] at h1
          have := unhide HT12
          omega
        have HL4 := hide hlt4
        have HRX := hide (unhide HRT _ (unhide HW0B _ BB4))
        have HWT := hide (fun (W : World) (hW : Below x4.heap.size x4 W) => WriteString_calls w1.heap.size w1.heap.size _ (strL (rowsL es)) W (isB_keep (unhide HF4) hW) (by rw [Lib.byteCells_length, List.length_append, strL_size]; have := unhide HLN; have := unhide HL4; have := unhide HRL; omega) (Nat.le_trans (unhide HBB4).size hW.size))
        rw [Lib.strCells_eq, show (strL (rowsL es)).data.toList = rowsL es from rfl, ← Lib.byteCells_append] at HWT
        generalize strL (rowsL es) = RT at HRX HWT
        clear BB1 BB2 BB3 BB4 hx1 hx2 hx3 hF4 hb4 hlt4 G9 G10 G11 HWS HRT
        go_wp2_with fail
        refine (unhide HRX).mono ?_
        rintro e x5 ⟨rfl, hx5⟩
        have HX5 := hide hx5
        clear hx5 q6
        go_wp2_with fail
        refine (unhide HWT _ (unhide HX5)).mono ?_
        rintro e x6 ⟨rfl, hF6, hb6⟩
        have HB6 := hide (((unhide HBB4).trans ((unhide HX5).mono (unhide HBB4).size)).trans hb6)
        have HS := hide (BString_calls w1.heap.size w1.heap.size _ x6 (.inr hF6) (unhide HB6).size)
        rw [show (⟨(catN ns ++ (T1.data.toList ++ T2.data.toList) ++ rowsL es).toArray⟩ : ByteArray) = strL (catN ns ++ (T1.data.toList ++ T2.data.toList) ++ rowsL es) from rfl, unhide HFN] at HS
        clear hF6 hb6
        go_wp2_with fail
        refine (unhide HS).mono ?_
        rintro e x7 ⟨rfl, hb7⟩
        have HB7 := hide ((unhide HB6).trans hb7)
        clear hb7
        go_wp2_with fail
        go_ret
        exact ⟨rfl, unhide HFIN _ (unhide HW0B _ (unhide HB7))⟩
end Go.Proofs.YtiakhgafibgpgaaDoor


/- The texts of messages, by the specification. -/
namespace Go.Proofs.YtiakhgafibgpgaaDoor
open Go.RowKit Plain
set_option linter.unusedVariables false

theorem Plain.strL_nilr (A : ByteArray) : A ++ strL [] = A := by apply ByteArray.ext; simp [strL]

set_option maxRecDepth 10000 in
set_option maxHeartbeats 8000000 in
theorem specM_false (kd fr tt tm ix lg cm : Int) (tx : ByteArray) (ae : Option Addr) (ne ce : Nat) (es : List Ent) (av : Option Addr) (nv cv : Nat) (v : List Int) (al : Option Addr) (nl cl : Nat) (l : List Int) (w : World) (htx : tx.size ≤ 1000000000) (hn : es.length = ne) (hn2 : ne ≤ 1048576) (hsm : smallE es) (h : RowAt entE w ae es) (hc : ConfAt w av nv v al nl l) :
    Calls Tryd.prog 5 #[.agg #[.int .i64 kd, .int .i64 fr, .int .i64 tt, .int .i64 tm, .int .i64 ix, .int .i64 lg, .slice ae ne ce, .int .i64 cm, .bool false, .string tx, .slice av nv cv, .slice al nl cl]] w fun e w' => e = .returned (.string (strL (msgL (numsM kd fr tt tm ix lg cm false) tx es v l))) ∧ Below w.heap.size w w' := by
  obtain ⟨W1, hW1⟩ : ∃ W1, W1 = (w.alloc (.cells #[.int .i64 kd, .int .i64 fr, .int .i64 tt, .int .i64 tm, .int .i64 ix, .int .i64 lg, .slice ae ne ce, .int .i64 cm, .bool false, .string tx, .slice av nv cv, .slice al nl cl] 33)).alloc (.cells #[.int .i64 kd, .int .i64 fr, .int .i64 tt, .int .i64 tm, .int .i64 ix, .int .i64 lg, .int .i64 cm, .int .i64 0] 2) := ⟨_, rfl⟩
  have hb1 : Below w.heap.size w W1 := by rw [hW1]; exact belOn (bel1 _ _) (bel1 _ _)
  have B1 : Blk W1 w.heap.size [.int .i64 kd, .int .i64 fr, .int .i64 tt, .int .i64 tm, .int .i64 ix, .int .i64 lg, .slice ae ne ce, .int .i64 cm, .bool false, .string tx, .slice av nv cv, .slice al nl cl] := by rw [hW1]; exact (Blk.new w _ _).alloc _
  have HN1 := hide (show NumsAt W1 (w.heap.size + 1) (numsM kd fr tt tm ix lg cm false) from by
    unfold NumsAt
    rw [hW1]
    have := (MapKept.heap_alloc (w.alloc (.cells #[.int .i64 kd, .int .i64 fr, .int .i64 tt, .int .i64 tm, .int .i64 ix, .int .i64 lg, .slice ae ne ce, .int .i64 cm, .bool false, .string tx, .slice av nv cv, .slice al nl cl] 33)) (.cells (intV (numsM kd fr tt tm ix lg cm false)).toArray 2)).1
    rw [show (w.alloc (.cells #[.int .i64 kd, .int .i64 fr, .int .i64 tt, .int .i64 tm, .int .i64 ix, .int .i64 lg, .slice ae ne ce, .int .i64 cm, .bool false, .string tx, .slice av nv cv, .slice al nl cl] 33)).heap.size = w.heap.size + 1 from by simp] at this
    exact this)
  have HFIN := hide (fun (W : World) (hW : Below W1.heap.size W1 W) => belOn hb1 hW)
  have HCT := hide (fun (W : World) (hW : Below W1.heap.size W1 W) => spec_ConfText av nv cv v al nl cl l W (hc.below (belOn hb1 hW)))
  have HRW := hide (fun (W : World) (hW : Below W1.heap.size W1 W) => h.below (belOn hb1 hW))
  have HB := hide (fun (W : World) (hW : Below W1.heap.size W1 W) => B1.call hW)
  have HPT := hide (fun (W : World) => spec_PutText tx W (by omega))
  have HPC := hide (fun (W : World) => spec_PutText (strL (confL v l)) W (by rw [strL_size]; exact confL_le v l))
  have HPL := hide (fun (W : World) => spec_PutNumber (ne : Int) W)
  have HW1 := hide hW1.symm
  have hl8 : (numsM kd fr tt tm ix lg cm false).length = 8 := rfl
  generalize numsM kd fr tt tm ix lg cm false = ns at HN1 hl8
  have HL8 := hide hl8
  have s1 := putT_le2 tx
  have s2 := putT_le2 (strL (confL v l))
  have s3 := putS_size (ne : Int)
  obtain ⟨FIN, hF⟩ : ∃ F, strL (msgL ns tx es v l) = F := ⟨_, rfl⟩
  rw [hF]
  unfold msgL at hF
  have HNO := hide (show msgB ns tx es = false → FIN = ⟨#[]⟩ from fun q => by rw [← hF, q]; rfl)
  have HYES := hide (show msgB ns tx es = true → FIN = strL (catN ns) ++ putT tx ++ putT (strL (confL v l)) ++ putS (ne : Int) ++ strL (catE es) from fun q => by
    rw [← hF, q, if_pos rfl, ← txtL_str, ← txtL_str, ← pnL_str]
    simp only [strL_add]
    unfold rowsL
    rw [hn]
    simp only [List.append_assoc])
  have HMB := hide (show msgB ns tx es = (ns.all numB && (decide (tx.size ≤ 20000) && decide (ne ≤ 8)) && entsB es) from by unfold msgB; rw [hn])
  obtain ⟨T1, hT1⟩ : ∃ T, putT tx = T := ⟨_, rfl⟩
  obtain ⟨T2, hT2⟩ : ∃ T, putT (strL (confL v l)) = T := ⟨_, rfl⟩
  obtain ⟨T3, hT3⟩ : ∃ T, putS (ne : Int) = T := ⟨_, rfl⟩
  rw [hT1] at HPT s1 HYES
  rw [hT2] at HPC s2 HYES
  rw [hT3] at HPL s3 HYES
  generalize strL (confL v l) = CT at HCT HPC
  have HN := hide hn
  have HSM := hide hsm
  clear hb1 hW1 B1 h hc hn hsm hl8 hT1 hT2 hT3 hF
  go_enter Tryd.func5, Tryd.ntmps5
  go_wp2_with fail
  rw [unhide HW1]
  go_loopw [5, 6] (fun s i wr => ∃ k : Nat, s = .string (strL (catN (ns.take k))) ∧ i = .int .i64 k ∧ k ≤ 8 ∧ Hid (ns.all numB = (ns.drop k).all numB) ∧ Hid (Below W1.heap.size W1 wr)) (fun _ i _ => 8 - (intOf i).toNat)
  case atStart => exact ⟨0, by simp [catN, strL], rfl, by omega, hide (by rw [List.drop_zero]), hide (Below.refl _ _)⟩
  case round =>
    obtain ⟨k, rfl, rfl, hk, HV, HBR⟩ := hrel
    by_cases hk8 : k < 8
    · have hkl : k < ns.length := by rw [unhide HL8]; exact hk8
      have p0 := ((unhide HN1).keep (unhide HBR)).cell k hkl
      have HS := (unhide HV).trans (numsB_step ns k hkl)
      have hst := catN_take ns k hkl
      have hl := catN_len (ns.take k)
      have hl2 : (ns.take k).length ≤ 8 := by rw [List.length_take]; omega
      generalize ns[k] = x at p0 HS hst
      have HIN := hide (fun W => l1In_calls x 0 1000000000000 W)
      obtain ⟨t, ht⟩ : ∃ t, numB x = t := ⟨_, rfl⟩
      rw [show (decide (0 ≤ x) && decide (x ≤ 1000000000000)) = t from ht] at HIN
      rw [ht] at HS
      have HS2 := hide HS
      have HPN := hide (fun W => spec_PutNumber x W)
      have hps : (putS x).size ≤ 6 := putS_size x
      have hadd := fun W => strAddM (a := strL (catN (ns.take k))) (b := putS x) W (by rw [strL_size]; omega)
      rw [← pnL_str x, strL_add, ← hst] at hadd
      rw [← pnL_str x] at HPN
      generalize hS2 : strL (catN (ns.take (k + 1))) = S2 at hadd
      have HE2 := hide hS2
      generalize strL (catN (ns.take k)) = S1 at hadd
      generalize strL (pnL x) = PX at hadd HPN
      clear HV ht HS hkl hst hl hl2 hps hS2
      have i0 : (0 : Int) ≤ (k : Int) := by omega
      have i1 : (k : Int) < (8 : Int) := by omega
      cases t with
      | false =>
        have HF := hide (unhide HNO (by rw [unhide HMB, unhide HS2]; simp))
        go_wp2_with (go_at_call 11; refine (unhide HIN _).mono ?_; rintro e w2 ⟨rfl, rfl⟩)
        go_ret
        exact ⟨by rw [unhide HF]; rfl, unhide HFIN _ (unhide HBR)⟩
      | true =>
        rw [Bool.true_and] at HS2
        go_wp2_with (first
          | (go_at_call 11; refine (unhide HIN _).mono ?_; rintro e w2 ⟨rfl, rfl⟩)
          | (go_at_call 12; refine (unhide HPN _).mono ?_; rintro e w3 ⟨rfl, hb3⟩))
        go_roundw
        case rel => exact ⟨k + 1, by rw [unhide HE2], by go_num, by omega, HS2, hide (belOn (unhide HBR) hb3)⟩
        case measure => simp [intOf]; omega
    · obtain rfl : k = 8 := by omega
      have hall := (unhide HV).trans (numsB_end ns 8 (by rw [unhide HL8]; exact Nat.le_refl _))
      rw [List.take_of_length_le (by rw [unhide HL8]; exact Nat.le_refl _)]
      have hln := catN_len ns
      rw [unhide HL8] at hln
      have hMB := unhide HMB
      rw [hall, Bool.true_and] at hMB
      have HMB2 := hide hMB
      have q := unhide HB _ (unhide HBR)
      have q6 := q.c 6 (by simp)
      have q9 := q.c 9 (by simp)
      have q10 := q.c 10 (by simp)
      have q11 := q.c 11 (by simp)
      have hql := q.lt
      simp only [List.getElem_cons_zero, List.getElem_cons_succ] at q6 q9 q10 q11
      have hsS : (strL (catN ns)).size ≤ 48 := by rw [strL_size]; omega
      generalize strL (catN ns) = S0 at HYES hsS
      clear hall hln hMB HV HMB q HN1 hk hk8
      by_cases ht : 20000 < tx.size
      · have ht2 : (20000 : Int) < (tx.size : Int) := by omega
        have HF := hide (unhide HNO (by rw [unhide HMB2]; simp; omega))
        clear ht
        go_wp2_with fail
        go_ret
        exact ⟨by rw [unhide HF]; rfl, unhide HFIN _ (unhide HBR)⟩
      by_cases h8 : 8 < ne
      · have ht2 : ¬ (20000 : Int) < (tx.size : Int) := by omega
        have h82 : (8 : Int) < (ne : Int) := by omega
        have HF := hide (unhide HNO (by rw [unhide HMB2]; simp; omega))
        clear ht h8
        go_wp2_with fail
        go_ret
        exact ⟨by rw [unhide HF]; rfl, unhide HFIN _ (unhide HBR)⟩
      have ht2 : ¬ (20000 : Int) < (tx.size : Int) := by omega
      have h82 : ¬ (8 : Int) < (ne : Int) := by omega
      have hMB := unhide HMB2
      rw [show (decide (tx.size ≤ 20000) && decide (ne ≤ 8)) = true from by simp; omega, Bool.true_and] at hMB
      have HMB3 := hide hMB
      have hne8 : ne ≤ 8 := by omega
      have a1 := fun W => strAddM (a := S0) (b := T1) W (by omega)
      have a2 := fun W => strAddM (a := S0 ++ T1) (b := T2) W (by rw [ByteArray.size_append]; omega)
      have a3 := fun W => strAddM (a := S0 ++ T1 ++ T2) (b := T3) W (by rw [ByteArray.size_append, ByteArray.size_append]; omega)
      have hsA : (S0 ++ T1 ++ T2 ++ T3).size ≤ 300000 := by rw [ByteArray.size_append, ByteArray.size_append, ByteArray.size_append]; omega
      have NE : Nonempty (Grown wr) := ⟨⟨wr, Below.refl _ _⟩⟩
      have G6 := Grown.cell q6 hql
      have G9 := Grown.cell q9 hql
      have G10 := Grown.cell q10 hql
      have G11 := Grown.cell q11 hql
      have HSA := hide hsA
      have HQ := hide (fun (W : World) (hW : Below W1.heap.size W1 W) => (unhide HB W hW).c 6 (by simp))
      simp only [List.getElem_cons_zero, List.getElem_cons_succ] at HQ
      clear ht h8 hMB HMB2 hsA hsS s1 s2 s3
      go_wp2_with fail
      refine region_grown (by kernel_rfl) (by kernel_rfl) wr (Below.refl _ _) ?_
      repeat (go_big_quiet_step (first
        | (go_at_call_of 13 tx; exact calls_grown _ (unhide HPT _))
        | (go_at_call 14; exact calls_grown _ (unhide HCT _ (belOn (unhide HBR) (Grown.ok _))))
        | (go_at_call_of 13 CT; exact calls_grown _ (unhide HPC _))
        | (go_at_call 12; exact calls_grown _ (unhide HPL _))
        | exact Eq.refl _))
      refine wpQuiet_nil ?_
      rintro _ ⟨y, rfl⟩
      obtain ⟨w5, hw5⟩ : ∃ x, x = y.w := ⟨_, rfl⟩
      have HB5 := hide (show Below W1.heap.size W1 w5 from by rw [hw5]; exact belOn (unhide HBR) y.ok)
      rw [← hw5]
      generalize S0 ++ T1 ++ T2 ++ T3 = A at HYES HSA
      clear hw5 y NE G6 G9 G10 G11 q6 q9 q10 q11 hql a1 a2 a3 HPT HCT HPC HPL
      go_wp2_with fail
      go_loopw [5, 7] (fun s i wr => ∃ k : Nat, s = .string (A ++ strL (catE (es.take k))) ∧ i = .int .i64 k ∧ k ≤ ne ∧ Hid (entsB es = entsB (es.drop k)) ∧ Hid (Below W1.heap.size W1 wr)) (fun _ i _ => ne - (intOf i).toNat)
      case atStart => exact ⟨0, by rw [show catE (es.take 0) = [] from by simp [catE], strL_nilr], rfl, by omega, hide (by rw [List.drop_zero]), HB5⟩
      case round =>
        clear HB5
        obtain ⟨k, rfl, rfl, hk, HV, HBR⟩ := hrel
        have q6 := unhide HQ _ (unhide HBR)
        by_cases hkn : k < ne
        · have hkl : k < es.length := by rw [unhide HN]; exact hkn
          obtain ⟨g, e1, l1, p0, p1, p2⟩ := (unhide HRW _ (unhide HBR)).ex k hkl
          have HS := (unhide HV).trans (entsB_step es k hkl)
          have hst := catE_take es k hkl
          have hsz := unhide HSM es[k] (by simp)
          have hl := catE_len (es.take k)
          have hl2 : (es.take k).length ≤ 8 := by rw [List.length_take]; omega
          generalize es[k] = x at p0 p1 p2 hst hsz HS
          obtain ⟨tm, kd, bd⟩ := x
          simp only at p0 p1 p2 hsz HS
          unfold entPL at hst
          simp only at hst
          have hpt := putT_le2 (entT tm kd bd)
          have HET := hide (fun W => spec_EntryText tm kd bd W hsz)
          have HPX := hide (fun W => spec_PutText (entT tm kd bd) W (entT_size tm kd bd))
          have hadd := fun W => strAddM (a := A ++ strL (catE (es.take k))) (b := putT (entT tm kd bd)) W (by rw [ByteArray.size_append, strL_size]; have := unhide HSA; omega)
          rw [ByteArray.append_assoc, ← txtL_str, strL_add, ← hst] at hadd
          rw [← txtL_str] at HPX
          obtain ⟨t, ht⟩ : ∃ t, entB tm kd bd = t := ⟨_, rfl⟩
          rw [ht] at HS
          have HS2 := hide HS
          generalize hS2 : A ++ strL (catE (es.take (k + 1))) = S2 at hadd
          have HE2 := hide hS2
          generalize A ++ strL (catE (es.take k)) = S1 at hadd
          generalize strL (txtL (entT tm kd bd)) = PX at hadd HPX
          subst e1
          have i0 : (0 : Int) ≤ (k : Int) := by omega
          have i1 : (k : Int) < (ne : Int) := by omega
          cases t with
          | false =>
            have hem := entT_no ht
            rw [hem] at HET HPX
            have HF := hide (unhide HNO (by rw [unhide HMB3, unhide HS2]; simp))
            clear HV ht HS hkl hst hl hl2 hpt hem hsz HS2 hS2
            go_wp2_with (first
              | (go_at_call 15; refine (unhide HET _).mono ?_; rintro e w6 ⟨rfl, hb6⟩))
            go_ret
            exact ⟨by rw [unhide HF]; rfl, unhide HFIN _ (belOn (unhide HBR) hb6)⟩
          | true =>
            rw [Bool.true_and] at HS2
            have hem := entT_ne ht
            generalize entT tm kd bd = ET at HET HPX hem
            clear HV ht HS hkl hst hl hl2 hpt hsz hS2
            go_wp2_with (first
              | (go_at_call 15; refine (unhide HET _).mono ?_; rintro e w6 ⟨rfl, hb6⟩)
              | (go_at_call 13; refine (unhide HPX _).mono ?_; rintro e w7 ⟨rfl, hb7⟩))
            go_roundw
            case rel => exact ⟨k + 1, by rw [unhide HE2], by go_num, by omega, HS2, hide (belOn (belOn (unhide HBR) hb6) hb7)⟩
            case measure => simp [intOf]; omega
        · obtain rfl : k = ne := by omega
          have hE := (unhide HV).trans (entsB_end es k (by rw [unhide HN]; exact Nat.le_refl _))
          have hFF := unhide HYES (by rw [unhide HMB3]; exact hE)
          rw [List.take_of_length_le (by rw [unhide HN]; exact Nat.le_refl _)]
          rw [← hFF]
          clear hFF hE HV
          go_wp2_with fail
          go_ret
          exact ⟨rfl, unhide HFIN _ (unhide HBR)⟩

set_option maxRecDepth 10000 in
set_option maxHeartbeats 8000000 in
theorem specM_true (kd fr tt tm ix lg cm : Int) (tx : ByteArray) (ae : Option Addr) (ne ce : Nat) (es : List Ent) (av : Option Addr) (nv cv : Nat) (v : List Int) (al : Option Addr) (nl cl : Nat) (l : List Int) (w : World) (htx : tx.size ≤ 1000000000) (hn : es.length = ne) (hn2 : ne ≤ 1048576) (hsm : smallE es) (h : RowAt entE w ae es) (hc : ConfAt w av nv v al nl l) :
    Calls Tryd.prog 5 #[.agg #[.int .i64 kd, .int .i64 fr, .int .i64 tt, .int .i64 tm, .int .i64 ix, .int .i64 lg, .slice ae ne ce, .int .i64 cm, .bool true, .string tx, .slice av nv cv, .slice al nl cl]] w fun e w' => e = .returned (.string (strL (msgL (numsM kd fr tt tm ix lg cm true) tx es v l))) ∧ Below w.heap.size w w' := by
  obtain ⟨W1, hW1⟩ : ∃ W1, W1 = (w.alloc (.cells #[.int .i64 kd, .int .i64 fr, .int .i64 tt, .int .i64 tm, .int .i64 ix, .int .i64 lg, .slice ae ne ce, .int .i64 cm, .bool true, .string tx, .slice av nv cv, .slice al nl cl] 33)).alloc (.cells #[.int .i64 kd, .int .i64 fr, .int .i64 tt, .int .i64 tm, .int .i64 ix, .int .i64 lg, .int .i64 cm, .int .i64 1] 2) := ⟨_, rfl⟩
  have hb1 : Below w.heap.size w W1 := by rw [hW1]; exact belOn (bel1 _ _) (bel1 _ _)
  have B1 : Blk W1 w.heap.size [.int .i64 kd, .int .i64 fr, .int .i64 tt, .int .i64 tm, .int .i64 ix, .int .i64 lg, .slice ae ne ce, .int .i64 cm, .bool true, .string tx, .slice av nv cv, .slice al nl cl] := by rw [hW1]; exact (Blk.new w _ _).alloc _
  have HN1 := hide (show NumsAt W1 (w.heap.size + 1) (numsM kd fr tt tm ix lg cm true) from by
    unfold NumsAt
    rw [hW1]
    have := (MapKept.heap_alloc (w.alloc (.cells #[.int .i64 kd, .int .i64 fr, .int .i64 tt, .int .i64 tm, .int .i64 ix, .int .i64 lg, .slice ae ne ce, .int .i64 cm, .bool true, .string tx, .slice av nv cv, .slice al nl cl] 33)) (.cells (intV (numsM kd fr tt tm ix lg cm true)).toArray 2)).1
    rw [show (w.alloc (.cells #[.int .i64 kd, .int .i64 fr, .int .i64 tt, .int .i64 tm, .int .i64 ix, .int .i64 lg, .slice ae ne ce, .int .i64 cm, .bool true, .string tx, .slice av nv cv, .slice al nl cl] 33)).heap.size = w.heap.size + 1 from by simp] at this
    exact this)
  have HFIN := hide (fun (W : World) (hW : Below W1.heap.size W1 W) => belOn hb1 hW)
  have HCT := hide (fun (W : World) (hW : Below W1.heap.size W1 W) => spec_ConfText av nv cv v al nl cl l W (hc.below (belOn hb1 hW)))
  have HRW := hide (fun (W : World) (hW : Below W1.heap.size W1 W) => h.below (belOn hb1 hW))
  have HB := hide (fun (W : World) (hW : Below W1.heap.size W1 W) => B1.call hW)
  have HPT := hide (fun (W : World) => spec_PutText tx W (by omega))
  have HPC := hide (fun (W : World) => spec_PutText (strL (confL v l)) W (by rw [strL_size]; exact confL_le v l))
  have HPL := hide (fun (W : World) => spec_PutNumber (ne : Int) W)
  have HW1 := hide hW1.symm
  have hl8 : (numsM kd fr tt tm ix lg cm true).length = 8 := rfl
  generalize numsM kd fr tt tm ix lg cm true = ns at HN1 hl8
  have HL8 := hide hl8
  have s1 := putT_le2 tx
  have s2 := putT_le2 (strL (confL v l))
  have s3 := putS_size (ne : Int)
  obtain ⟨FIN, hF⟩ : ∃ F, strL (msgL ns tx es v l) = F := ⟨_, rfl⟩
  rw [hF]
  unfold msgL at hF
  have HNO := hide (show msgB ns tx es = false → FIN = ⟨#[]⟩ from fun q => by rw [← hF, q]; rfl)
  have HYES := hide (show msgB ns tx es = true → FIN = strL (catN ns) ++ putT tx ++ putT (strL (confL v l)) ++ putS (ne : Int) ++ strL (catE es) from fun q => by
    rw [← hF, q, if_pos rfl, ← txtL_str, ← txtL_str, ← pnL_str]
    simp only [strL_add]
    unfold rowsL
    rw [hn]
    simp only [List.append_assoc])
  have HMB := hide (show msgB ns tx es = (ns.all numB && (decide (tx.size ≤ 20000) && decide (ne ≤ 8)) && entsB es) from by unfold msgB; rw [hn])
  obtain ⟨T1, hT1⟩ : ∃ T, putT tx = T := ⟨_, rfl⟩
  obtain ⟨T2, hT2⟩ : ∃ T, putT (strL (confL v l)) = T := ⟨_, rfl⟩
  obtain ⟨T3, hT3⟩ : ∃ T, putS (ne : Int) = T := ⟨_, rfl⟩
  rw [hT1] at HPT s1 HYES
  rw [hT2] at HPC s2 HYES
  rw [hT3] at HPL s3 HYES
  generalize strL (confL v l) = CT at HCT HPC
  have HN := hide hn
  have HSM := hide hsm
  clear hb1 hW1 B1 h hc hn hsm hl8 hT1 hT2 hT3 hF
  go_enter Tryd.func5, Tryd.ntmps5
  go_wp2_with fail
  rw [unhide HW1]
  go_loopw [5, 6] (fun s i wr => ∃ k : Nat, s = .string (strL (catN (ns.take k))) ∧ i = .int .i64 k ∧ k ≤ 8 ∧ Hid (ns.all numB = (ns.drop k).all numB) ∧ Hid (Below W1.heap.size W1 wr)) (fun _ i _ => 8 - (intOf i).toNat)
  case atStart => exact ⟨0, by simp [catN, strL], rfl, by omega, hide (by rw [List.drop_zero]), hide (Below.refl _ _)⟩
  case round =>
    obtain ⟨k, rfl, rfl, hk, HV, HBR⟩ := hrel
    by_cases hk8 : k < 8
    · have hkl : k < ns.length := by rw [unhide HL8]; exact hk8
      have p0 := ((unhide HN1).keep (unhide HBR)).cell k hkl
      have HS := (unhide HV).trans (numsB_step ns k hkl)
      have hst := catN_take ns k hkl
      have hl := catN_len (ns.take k)
      have hl2 : (ns.take k).length ≤ 8 := by rw [List.length_take]; omega
      generalize ns[k] = x at p0 HS hst
      have HIN := hide (fun W => l1In_calls x 0 1000000000000 W)
      obtain ⟨t, ht⟩ : ∃ t, numB x = t := ⟨_, rfl⟩
      rw [show (decide (0 ≤ x) && decide (x ≤ 1000000000000)) = t from ht] at HIN
      rw [ht] at HS
      have HS2 := hide HS
      have HPN := hide (fun W => spec_PutNumber x W)
      have hps : (putS x).size ≤ 6 := putS_size x
      have hadd := fun W => strAddM (a := strL (catN (ns.take k))) (b := putS x) W (by rw [strL_size]; omega)
      rw [← pnL_str x, strL_add, ← hst] at hadd
      rw [← pnL_str x] at HPN
      generalize hS2 : strL (catN (ns.take (k + 1))) = S2 at hadd
      have HE2 := hide hS2
      generalize strL (catN (ns.take k)) = S1 at hadd
      generalize strL (pnL x) = PX at hadd HPN
      clear HV ht HS hkl hst hl hl2 hps hS2
      have i0 : (0 : Int) ≤ (k : Int) := by omega
      have i1 : (k : Int) < (8 : Int) := by omega
      cases t with
      | false =>
        have HF := hide (unhide HNO (by rw [unhide HMB, unhide HS2]; simp))
        go_wp2_with (go_at_call 11; refine (unhide HIN _).mono ?_; rintro e w2 ⟨rfl, rfl⟩)
        go_ret
        exact ⟨by rw [unhide HF]; rfl, unhide HFIN _ (unhide HBR)⟩
      | true =>
        rw [Bool.true_and] at HS2
        go_wp2_with (first
          | (go_at_call 11; refine (unhide HIN _).mono ?_; rintro e w2 ⟨rfl, rfl⟩)
          | (go_at_call 12; refine (unhide HPN _).mono ?_; rintro e w3 ⟨rfl, hb3⟩))
        go_roundw
        case rel => exact ⟨k + 1, by rw [unhide HE2], by go_num, by omega, HS2, hide (belOn (unhide HBR) hb3)⟩
        case measure => simp [intOf]; omega
    · obtain rfl : k = 8 := by omega
      have hall := (unhide HV).trans (numsB_end ns 8 (by rw [unhide HL8]; exact Nat.le_refl _))
      rw [List.take_of_length_le (by rw [unhide HL8]; exact Nat.le_refl _)]
      have hln := catN_len ns
      rw [unhide HL8] at hln
      have hMB := unhide HMB
      rw [hall, Bool.true_and] at hMB
      have HMB2 := hide hMB
      have q := unhide HB _ (unhide HBR)
      have q6 := q.c 6 (by simp)
      have q9 := q.c 9 (by simp)
      have q10 := q.c 10 (by simp)
      have q11 := q.c 11 (by simp)
      have hql := q.lt
      simp only [List.getElem_cons_zero, List.getElem_cons_succ] at q6 q9 q10 q11
      have hsS : (strL (catN ns)).size ≤ 48 := by rw [strL_size]; omega
      generalize strL (catN ns) = S0 at HYES hsS
      clear hall hln hMB HV HMB q HN1 hk hk8
      by_cases ht : 20000 < tx.size
      · have ht2 : (20000 : Int) < (tx.size : Int) := by omega
        have HF := hide (unhide HNO (by rw [unhide HMB2]; simp; omega))
        clear ht
        go_wp2_with fail
        go_ret
        exact ⟨by rw [unhide HF]; rfl, unhide HFIN _ (unhide HBR)⟩
      by_cases h8 : 8 < ne
      · have ht2 : ¬ (20000 : Int) < (tx.size : Int) := by omega
        have h82 : (8 : Int) < (ne : Int) := by omega
        have HF := hide (unhide HNO (by rw [unhide HMB2]; simp; omega))
        clear ht h8
        go_wp2_with fail
        go_ret
        exact ⟨by rw [unhide HF]; rfl, unhide HFIN _ (unhide HBR)⟩
      have ht2 : ¬ (20000 : Int) < (tx.size : Int) := by omega
      have h82 : ¬ (8 : Int) < (ne : Int) := by omega
      have hMB := unhide HMB2
      rw [show (decide (tx.size ≤ 20000) && decide (ne ≤ 8)) = true from by simp; omega, Bool.true_and] at hMB
      have HMB3 := hide hMB
      have hne8 : ne ≤ 8 := by omega
      have a1 := fun W => strAddM (a := S0) (b := T1) W (by omega)
      have a2 := fun W => strAddM (a := S0 ++ T1) (b := T2) W (by rw [ByteArray.size_append]; omega)
      have a3 := fun W => strAddM (a := S0 ++ T1 ++ T2) (b := T3) W (by rw [ByteArray.size_append, ByteArray.size_append]; omega)
      have hsA : (S0 ++ T1 ++ T2 ++ T3).size ≤ 300000 := by rw [ByteArray.size_append, ByteArray.size_append, ByteArray.size_append]; omega
      have NE : Nonempty (Grown wr) := ⟨⟨wr, Below.refl _ _⟩⟩
      have G6 := Grown.cell q6 hql
      have G9 := Grown.cell q9 hql
      have G10 := Grown.cell q10 hql
      have G11 := Grown.cell q11 hql
      have HSA := hide hsA
      have HQ := hide (fun (W : World) (hW : Below W1.heap.size W1 W) => (unhide HB W hW).c 6 (by simp))
      simp only [List.getElem_cons_zero, List.getElem_cons_succ] at HQ
      clear ht h8 hMB HMB2 hsA hsS s1 s2 s3
      go_wp2_with fail
      refine region_grown (by kernel_rfl) (by kernel_rfl) wr (Below.refl _ _) ?_
      repeat (go_big_quiet_step (first
        | (go_at_call_of 13 tx; exact calls_grown _ (unhide HPT _))
        | (go_at_call 14; exact calls_grown _ (unhide HCT _ (belOn (unhide HBR) (Grown.ok _))))
        | (go_at_call_of 13 CT; exact calls_grown _ (unhide HPC _))
        | (go_at_call 12; exact calls_grown _ (unhide HPL _))
        | exact Eq.refl _))
      refine wpQuiet_nil ?_
      rintro _ ⟨y, rfl⟩
      obtain ⟨w5, hw5⟩ : ∃ x, x = y.w := ⟨_, rfl⟩
      have HB5 := hide (show Below W1.heap.size W1 w5 from by rw [hw5]; exact belOn (unhide HBR) y.ok)
      rw [← hw5]
      generalize S0 ++ T1 ++ T2 ++ T3 = A at HYES HSA
      clear hw5 y NE G6 G9 G10 G11 q6 q9 q10 q11 hql a1 a2 a3 HPT HCT HPC HPL
      go_wp2_with fail
      go_loopw [5, 7] (fun s i wr => ∃ k : Nat, s = .string (A ++ strL (catE (es.take k))) ∧ i = .int .i64 k ∧ k ≤ ne ∧ Hid (entsB es = entsB (es.drop k)) ∧ Hid (Below W1.heap.size W1 wr)) (fun _ i _ => ne - (intOf i).toNat)
      case atStart => exact ⟨0, by rw [show catE (es.take 0) = [] from by simp [catE], strL_nilr], rfl, by omega, hide (by rw [List.drop_zero]), HB5⟩
      case round =>
        clear HB5
        obtain ⟨k, rfl, rfl, hk, HV, HBR⟩ := hrel
        have q6 := unhide HQ _ (unhide HBR)
        by_cases hkn : k < ne
        · have hkl : k < es.length := by rw [unhide HN]; exact hkn
          obtain ⟨g, e1, l1, p0, p1, p2⟩ := (unhide HRW _ (unhide HBR)).ex k hkl
          have HS := (unhide HV).trans (entsB_step es k hkl)
          have hst := catE_take es k hkl
          have hsz := unhide HSM es[k] (by simp)
          have hl := catE_len (es.take k)
          have hl2 : (es.take k).length ≤ 8 := by rw [List.length_take]; omega
          generalize es[k] = x at p0 p1 p2 hst hsz HS
          obtain ⟨tm, kd, bd⟩ := x
          simp only at p0 p1 p2 hsz HS
          unfold entPL at hst
          simp only at hst
          have hpt := putT_le2 (entT tm kd bd)
          have HET := hide (fun W => spec_EntryText tm kd bd W hsz)
          have HPX := hide (fun W => spec_PutText (entT tm kd bd) W (entT_size tm kd bd))
          have hadd := fun W => strAddM (a := A ++ strL (catE (es.take k))) (b := putT (entT tm kd bd)) W (by rw [ByteArray.size_append, strL_size]; have := unhide HSA; omega)
          rw [ByteArray.append_assoc, ← txtL_str, strL_add, ← hst] at hadd
          rw [← txtL_str] at HPX
          obtain ⟨t, ht⟩ : ∃ t, entB tm kd bd = t := ⟨_, rfl⟩
          rw [ht] at HS
          have HS2 := hide HS
          generalize hS2 : A ++ strL (catE (es.take (k + 1))) = S2 at hadd
          have HE2 := hide hS2
          generalize A ++ strL (catE (es.take k)) = S1 at hadd
          generalize strL (txtL (entT tm kd bd)) = PX at hadd HPX
          subst e1
          have i0 : (0 : Int) ≤ (k : Int) := by omega
          have i1 : (k : Int) < (ne : Int) := by omega
          cases t with
          | false =>
            have hem := entT_no ht
            rw [hem] at HET HPX
            have HF := hide (unhide HNO (by rw [unhide HMB3, unhide HS2]; simp))
            clear HV ht HS hkl hst hl hl2 hpt hem hsz HS2 hS2
            go_wp2_with (first
              | (go_at_call 15; refine (unhide HET _).mono ?_; rintro e w6 ⟨rfl, hb6⟩))
            go_ret
            exact ⟨by rw [unhide HF]; rfl, unhide HFIN _ (belOn (unhide HBR) hb6)⟩
          | true =>
            rw [Bool.true_and] at HS2
            have hem := entT_ne ht
            generalize entT tm kd bd = ET at HET HPX hem
            clear HV ht HS hkl hst hl hl2 hpt hsz hS2
            go_wp2_with (first
              | (go_at_call 15; refine (unhide HET _).mono ?_; rintro e w6 ⟨rfl, hb6⟩)
              | (go_at_call 13; refine (unhide HPX _).mono ?_; rintro e w7 ⟨rfl, hb7⟩))
            go_roundw
            case rel => exact ⟨k + 1, by rw [unhide HE2], by go_num, by omega, HS2, hide (belOn (belOn (unhide HBR) hb6) hb7)⟩
            case measure => simp [intOf]; omega
        · obtain rfl : k = ne := by omega
          have hE := (unhide HV).trans (entsB_end es k (by rw [unhide HN]; exact Nat.le_refl _))
          have hFF := unhide HYES (by rw [unhide HMB3]; exact hE)
          rw [List.take_of_length_le (by rw [unhide HN]; exact Nat.le_refl _)]
          rw [← hFF]
          clear hFF hE HV
          go_wp2_with fail
          go_ret
          exact ⟨rfl, unhide HFIN _ (unhide HBR)⟩

theorem spec_MsgText (kd fr tt tm ix lg cm : Int) (ok : Bool) (tx : ByteArray) (ae : Option Addr) (ne ce : Nat) (es : List Ent) (av : Option Addr) (nv cv : Nat) (v : List Int) (al : Option Addr) (nl cl : Nat) (l : List Int) (w : World) (htx : tx.size ≤ 1000000000) (hn : es.length = ne) (hn2 : ne ≤ 1048576) (hsm : smallE es) (h : RowAt entE w ae es) (hc : ConfAt w av nv v al nl l) :
    Calls Tryd.prog 5 #[.agg #[.int .i64 kd, .int .i64 fr, .int .i64 tt, .int .i64 tm, .int .i64 ix, .int .i64 lg, .slice ae ne ce, .int .i64 cm, .bool ok, .string tx, .slice av nv cv, .slice al nl cl]] w fun e w' => e = .returned (.string (strL (msgL (numsM kd fr tt tm ix lg cm ok) tx es v l))) ∧ Below w.heap.size w w' := by
  cases ok with
  | false => exact specM_false kd fr tt tm ix lg cm tx ae ne ce es av nv cv v al nl cl l w htx hn hn2 hsm h hc
  | true => exact specM_true kd fr tt tm ix lg cm tx ae ne ce es av nv cv v al nl cl l w htx hn hn2 hsm h hc
end Go.Proofs.YtiakhgafibgpgaaDoor

