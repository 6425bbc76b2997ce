/- Texts of one kind, put together. -/
import Derived.Test.YtjiclgcohpkkjaaGreatDoorGzAK
import Derived.Laws.IdiomStrings
import Derived.Test.YtjiclgcohpkkjaaGreatDoorMem
import Derived.Deep.QuietTactic
import Derived.BigQuiet
import Derived.Test.YtjiclgcohpkkjaaGreatDoorGzAI

/- The text of members, by the specification. -/
namespace Go.Proofs.YtjiclgcohpkkjaaGreatDoor
open Go.RowKit Plain
set_option linter.unusedVariables false

set_option maxRecDepth 10000 in
set_option maxHeartbeats 2000000 in
theorem l1Dec_calls (n : Nat) (w : World) (h1 : 1 ≤ n) (h2 : n ≤ 50) :
    Calls Tryz.prog 85 #[.int .i64 n] w fun e w' => e = .returned (.string (strL (Lib.decDigits n))) ∧ Below w.heap.size w w' := by
  have HX := hide (decF_is ⟨n, by omega⟩ (by simp; omega))
  simp only at HX
  have hne : ((n : Int) == 0) = false := by rw [beq_eq_false_iff_ne]; omega
  go_enter Tryz.func85, Tryz.ntmps85
  go_wp2_with fail
  go_loopw [0, 3] (fun s0 s3 wr => ∃ (f m : Nat) (o : List UInt8), s0 = .int .i64 m ∧ s3 = .string (strL o) ∧ f ≤ 3 ∧ m ≤ 50 ∧ o.length + f ≤ 3 ∧ m < 10 ^ f ∧ Hid (decF f m o = Lib.decDigits n) ∧ Hid (Below w.heap.size w wr)) (fun s0 _ _ => (intOf s0).toNat)
  case atStart => exact ⟨3, n, [], rfl, rfl, by omega, by omega, by simp, by omega, HX, hide (Below.refl _ _)⟩
  case round =>
    obtain ⟨f, m, o, rfl, rfl, hf, hm, ho, hp, HO, HB⟩ := hrel
    by_cases hm0 : 0 < m
    · obtain ⟨f, rfl⟩ : ∃ f', f = f' + 1 := ⟨f - 1, by
        rcases Nat.eq_zero_or_pos f with h | h
        · subst h; simp at hp; omega
        · omega⟩
      have hst := unhide HO
      rw [decF, if_neg (by omega)] at hst
      have HST := hide hst
      have hm1 : (0 : Int) < (m : Int) := by omega
      obtain ⟨d, hd⟩ : ∃ d : Nat, m % 10 = d := ⟨_, rfl⟩
      obtain ⟨m2, hm2⟩ : ∃ m2 : Nat, m / 10 = m2 := ⟨_, rfl⟩
      rw [hd, hm2] at HST
      have ht : (m : Int) % 10 = (d : Int) := by omega
      have hq : (m : Int) / 10 = (m2 : Int) := by omega
      have hcv := conv1 wr (48 + (d : Int))
      rw [show strOfNums [48 + (d : Int)] = strL [UInt8.ofNat (48 + d)] from by unfold strOfNums strL; rw [List.map_cons, List.map_nil, show (48 + (d : Int)).toNat = 48 + d from by omega]] at hcv
      have hadd := fun W => strAdd (a := strL [UInt8.ofNat (48 + d)]) (b := strL o) W (by rw [strL_size, strL_size, List.length_singleton]; omega)
      rw [strL_add, List.singleton_append] at hadd
      have hm3 : m2 < 10 ^ f := by rw [← hm2]; rw [Nat.pow_succ] at hp; exact Nat.div_lt_of_lt_mul (by rw [Nat.mul_comm]; exact hp)
      generalize hT : strL (UInt8.ofNat (48 + d) :: o) = T at hadd
      generalize strL [UInt8.ofNat (48 + d)] = D at hcv hadd
      have HT := hide hT
      clear hst HO hd hm2 hT hp
      go_wp2_with fail
      go_roundw
      case rel => exact ⟨f, m2, UInt8.ofNat (48 + d) :: o, by first | rfl | (simp [hq]), by rw [unhide HT], by omega, by omega, by rw [List.length_cons]; omega, hm3, HST, hide (belOn (unhide HB) (bel1 _ _))⟩
      case measure => simp [intOf]; omega
    · obtain rfl : m = 0 := by omega
      have hst := unhide HO
      have HF := hide (show o = Lib.decDigits n from by rw [← hst]; cases f <;> simp [decF])
      clear hst HO
      rw [unhide HF]
      go_wp2_with fail
      go_ret
      exact ⟨rfl, unhide HB⟩

namespace Plain
theorem pre_len (p : List UInt8) (ls : List Int) (h : ∀ a ∈ ls, 1 ≤ a ∧ a ≤ 50) (hl : ls.length ≤ 7) (hp : p.length ≤ 40) (k : Nat) (o : List UInt8) (ho : o = p ++ numL (ls.take k)) : o.length ≤ 70 := by
  have := numL_take_len ls h k
  rw [ho, List.length_append]
  omega
end Plain

set_option maxRecDepth 10000 in
set_option maxHeartbeats 4000000 in
theorem spec_ConfText (av : Option Addr) (nv cv : Nat) (v : List Int) (al : Option Addr) (nl cl : Nat) (l : List Int) (w : World) (h : ConfAt w av nv v al nl l) :
    Calls Tryz.prog 49 #[.agg #[.slice av nv cv, .slice al nl cl]] w fun e w' => e = .returned (.string (strL (confL v l))) ∧ Below w.heap.size w w' := by
  obtain ⟨W0, hW0⟩ : ∃ W0, W0 = w.alloc (.cells #[.slice av nv cv, .slice al nl cl] 25) := ⟨_, rfl⟩
  have hb0 : Below w.heap.size w W0 := by rw [hW0]; exact bel1 _ _
  have hlt : w.heap.size < W0.heap.size := by rw [hW0]; simp
  have c0 : W0.cell? ⟨w.heap.size, 0, none⟩ = some (.slice av nv cv) := by rw [hW0]; simp [go_sem]
  have c1 : W0.cell? ⟨w.heap.size, 1, none⟩ = some (.slice al nl cl) := by rw [hW0]; simp [go_sem]
  have HC := hide (fun (W : World) (hW : Below W0.heap.size W0 W) => And.intro (bcl hW hlt c0) (bcl hW hlt c1))
  have HOK := hide (spec_ConfOk av nv cv v al nl cl l W0 (h.below hb0))
  have HA := hide (fun (W : World) (hW : Below W0.heap.size W0 W) => h.below (belOn hb0 hW))
  have HFIN := hide (fun (W : World) (hW : Below W0.heap.size W0 W) => belOn hb0 hW)
  have hvn := h.v.len
  have hln := h.l.len
  have HW0 := hide hW0.symm
  clear hb0 hW0 hlt h
  cases hc : confB v l with
  | false =>
    have HX := hide (show confL v l = [] from by unfold confL; rw [hc]; rfl)
    rw [hc] at HOK
    clear hc hvn hln
    go_enter Tryz.func49, Tryz.ntmps49
    go_wp2_with fail
    rw [unhide HW0]
    refine (unhide HOK).mono ?_
    rintro e w1 ⟨rfl, hb1⟩
    have HB1 := hide (unhide HFIN _ hb1)
    clear hb1
    go_wp2_with fail
    go_ret
    exact ⟨by rw [unhide HX]; rfl, unhide HB1⟩
  | true =>
    obtain ⟨hv, hl, h7⟩ := confB_l hc
    obtain ⟨-, -, hv7⟩ := confB_v hc
    have HPV := hide (pre_len [118] v hv hv7 (by decide))
    have lv := numL_len v hv
    have HPL := hide (pre_len ((118 :: numL v) ++ [32, 108]) l hl h7 (by rw [List.length_append, List.length_cons, List.length_cons, List.length_cons, List.length_nil]; omega))
    have lv2 : (118 :: numL v).length ≤ 40 := by rw [List.length_cons]; omega
    rw [hvn] at hv7
    rw [hln] at h7
    have HV := hide hv
    have HL := hide hl
    have HVN := hide hvn
    have HLN := hide hln
    have HX := hide (show confL v l = (118 :: numL v) ++ (if nl = 0 then [] else 32 :: 108 :: numL l) from by unfold confL; rw [hc, hln]; rfl)
    rw [hc] at HOK
    clear hc hvn hln hv hl lv
    go_enter Tryz.func49, Tryz.ntmps49
    go_wp2_with fail
    rw [unhide HW0]
    refine (unhide HOK).mono ?_
    rintro e w1 ⟨rfl, hb1⟩
    have HB1 := hide hb1
    clear hb1 c0 c1
    go_wp2_with fail
    go_loopw [3, 4] (fun s3 i wr => ∃ (k : Nat) (o : List UInt8), s3 = .string (strL o) ∧ i = .int .i64 k ∧ k ≤ nv ∧ Hid (o = [118] ++ numL (v.take k)) ∧ Hid (Below W0.heap.size W0 wr)) (fun _ i _ => nv - (intOf i).toNat)
    case atStart => exact ⟨0, [118], rfl, rfl, by omega, hide rfl, HB1⟩
    case round =>
      clear HB1
      obtain ⟨k, o, rfl, rfl, hk, HO, HB⟩ := hrel
      obtain ⟨q0, q1⟩ := unhide HC _ (unhide HB)
      by_cases hkn : k < nv
      · have hkl : k < v.length := by rw [unhide HVN]; exact hkn
        obtain ⟨g, e1, l1, p0, -⟩ := (unhide HA _ (unhide HB)).v.row.ix k hkl
        have hst := numL_take v k hkl
        have hr := unhide HV v[k] (by simp)
        have ho := unhide HPV k o (unhide HO)
        generalize v[k] = x at p0 hst hr
        obtain ⟨X, rfl⟩ := Int.eq_ofNat_of_zero_le (show 0 ≤ x by omega)
        rw [Int.toNat_natCast] at hst
        have hd := dec_len ⟨X, by omega⟩
        simp only at hd
        subst e1
        have i0 : (0 : Int) ≤ (k : Int) := by omega
        have i1 : (k : Int) < (nv : Int) := by omega
        have HDE := hide (fun W => l1Dec_calls X W (by omega) (by omega))
        have hadd := fun W => strAdd (a := strL o) (b := ⟨#[32]⟩) W (by rw [strL_size]; have : (⟨#[32]⟩ : ByteArray).size = 1 := rfl; omega)
        rw [show strL o ++ (⟨#[32]⟩ : ByteArray) = strL (o ++ [32]) from strL_add o [32]] at hadd
        have hadd2 := fun W => strAdd (a := strL (o ++ [32])) (b := strL (Lib.decDigits X)) W (by rw [strL_size, strL_size, List.length_append, List.length_singleton]; omega)
        rw [strL_add] at hadd2
        have HST := hide (show o ++ [32] ++ Lib.decDigits X = [118] ++ numL (v.take (k + 1)) from by rw [hst, unhide HO]; simp)
        generalize hT : strL (o ++ [32] ++ Lib.decDigits X) = T at hadd2
        generalize strL (o ++ [32]) = T1 at hadd hadd2
        generalize strL (Lib.decDigits X) = T2 at HDE hadd2
        have HT := hide hT
        clear hst hT hd HO
        go_wp2_with fail
        refine (unhide HDE _).mono ?_
        rintro e w2 ⟨rfl, hb2⟩
        have HB2 := hide (belOn (unhide HB) hb2)
        clear hb2
        go_wp2_with fail
        go_roundw
        case rel => exact ⟨k + 1, o ++ [32] ++ Lib.decDigits X, by rw [unhide HT], by go_num, by omega, HST, HB2⟩
        case measure => simp [intOf]; omega
      · obtain rfl : k = nv := by omega
        have ho : o = 118 :: numL v := by have := unhide HO; rw [List.take_of_length_le (by rw [unhide HVN]; exact Nat.le_refl _)] at this; exact this
        subst ho
        clear HO
        by_cases h0 : nl = 0
        · have h0i : ¬ (0 : Int) < (nl : Int) := by omega
          have HF := hide (show confL v l = 118 :: numL v from by rw [unhide HX, if_pos h0, List.append_nil])
          generalize hT : strL (118 :: numL v) = T
          have HT := hide hT
          clear hT h0
          go_wp2_with fail
          go_loopw [3, 5] (fun s3 i wr => ∃ (j : Nat), s3 = .string T ∧ i = .int .i64 j ∧ Hid (Below W0.heap.size W0 wr)) (fun _ i _ => 0)
          case atStart => exact ⟨0, rfl, rfl, HB⟩
          case round =>
            clear HB q0 q1
            obtain ⟨j, rfl, rfl, HB⟩ := hrel
            obtain ⟨q0, q1⟩ := unhide HC _ (unhide HB)
            have hj : ¬ (j : Int) < (nl : Int) := by omega
            go_wp2_with fail
            go_ret
            exact ⟨by rw [unhide HF, unhide HT]; rfl, unhide HFIN _ (unhide HB)⟩
        · have h0b : decide (0 < nl) = true := decide_eq_true (by omega)
          have HF := hide (show confL v l = ((118 :: numL v) ++ [32, 108]) ++ numL l from by rw [unhide HX, if_neg h0]; simp)
          have hadd := fun W => strAdd (a := strL (118 :: numL v)) (b := ⟨#[32, 108]⟩) W (by rw [strL_size]; have : (⟨#[32, 108]⟩ : ByteArray).size = 2 := rfl; omega)
          rw [show strL (118 :: numL v) ++ (⟨#[32, 108]⟩ : ByteArray) = strL ((118 :: numL v) ++ [32, 108]) from strL_add _ [32, 108]] at hadd
          generalize (118 :: numL v) ++ [32, 108] = P at HF HPL hadd
          generalize strL (118 :: numL v) = T0 at hadd
          clear h0
          go_wp2_with fail
          go_loopw [3, 5] (fun s3 i wr => ∃ (j : Nat) (o : List UInt8), s3 = .string (strL o) ∧ i = .int .i64 j ∧ j ≤ nl ∧ Hid (o = P ++ numL (l.take j)) ∧ Hid (Below W0.heap.size W0 wr)) (fun _ i _ => nl - (intOf i).toNat)
          case atStart => exact ⟨0, P, rfl, rfl, by omega, hide (by simp [numL]), HB⟩
          case round =>
            clear HB q0 q1 hadd
            obtain ⟨j, o, rfl, rfl, hj, HO, HB⟩ := hrel
            obtain ⟨q0, q1⟩ := unhide HC _ (unhide HB)
            by_cases hjn : j < nl
            · have hkl : j < l.length := by rw [unhide HLN]; exact hjn
              obtain ⟨g, e1, l1, p0, -⟩ := (unhide HA _ (unhide HB)).l.row.ix j hkl
              have hst := numL_take l j hkl
              have hr := unhide HL l[j] (by simp)
              have ho := unhide HPL j o (unhide HO)
              generalize l[j] = x at p0 hst hr
              obtain ⟨X, rfl⟩ := Int.eq_ofNat_of_zero_le (show 0 ≤ x by omega)
              rw [Int.toNat_natCast] at hst
              have hd := dec_len ⟨X, by omega⟩
              simp only at hd
              subst e1
              have i0 : (0 : Int) ≤ (j : Int) := by omega
              have i1 : (j : Int) < (nl : Int) := by omega
              have HDE := hide (fun W => l1Dec_calls X W (by omega) (by omega))
              have hadd := fun W => strAdd (a := strL o) (b := ⟨#[32]⟩) W (by rw [strL_size]; have : (⟨#[32]⟩ : ByteArray).size = 1 := rfl; omega)
              rw [show strL o ++ (⟨#[32]⟩ : ByteArray) = strL (o ++ [32]) from strL_add o [32]] at hadd
              have hadd2 := fun W => strAdd (a := strL (o ++ [32])) (b := strL (Lib.decDigits X)) W (by rw [strL_size, strL_size, List.length_append, List.length_singleton]; omega)
              rw [strL_add] at hadd2
              have HST := hide (show o ++ [32] ++ Lib.decDigits X = P ++ numL (l.take (j + 1)) from by rw [hst, unhide HO]; simp)
              generalize hT : strL (o ++ [32] ++ Lib.decDigits X) = T at hadd2
              generalize strL (o ++ [32]) = T1 at hadd hadd2
              generalize strL (Lib.decDigits X) = T2 at HDE hadd2
              have HT := hide hT
              clear hst hT hd HO
              go_wp2_with fail
              refine (unhide HDE _).mono ?_
              rintro e w2 ⟨rfl, hb2⟩
              have HB2 := hide (belOn (unhide HB) hb2)
              clear hb2
              go_wp2_with fail
              go_roundw
              case rel => exact ⟨j + 1, o ++ [32] ++ Lib.decDigits X, by rw [unhide HT], by go_num, by omega, HST, HB2⟩
              case measure => simp [intOf]; omega
            · obtain rfl : j = nl := by omega
              have ho : o = P ++ numL l := by have := unhide HO; rw [List.take_of_length_le (by rw [unhide HLN]; exact Nat.le_refl _)] at this; exact this
              have HG := hide (show confL v l = o from by rw [unhide HF, ho])
              clear ho HO
              go_wp2_with fail
              go_ret
              exact ⟨by rw [unhide HG]; rfl, unhide HFIN _ (unhide HB)⟩
end Go.Proofs.YtjiclgcohpkkjaaGreatDoor


/- Regions that draw their order and whose callees may make new blocks: one walk in the order of the text. -/
namespace Go.Proofs.YtjiclgcohpkkjaaGreatDoor
open Go.RowKit Plain
set_option linter.unusedVariables false

/-- A world that has grown out of W: new blocks alone. -/
structure Plain.Grown (W : World) where
  w : World
  ok : Below W.heap.size W w
theorem Plain.region_grown {id : Nat} {Q : Exit → Act → World → Prop} {a : Act} {w : World} {l : List Oper} (hm : Tryz.prog.follows .mixedOrders = true) (hB : Region.lexB .any l.toArray = true) (W : World) (hW : Below W.heap.size W w)
    (h : wpQuiet Tryz.prog l.toArray (fun w' => ∃ x : Grown W, w' = x.w) (fun a' => ∀ w', (∃ x : Grown W, w' = x.w) → Q .normal a' w') l a) : (Code.region id l.toArray true).wp Tryz.prog Q a w :=
  wp_region_quiet (C := fun w' => ∃ x : Grown W, w' = x.w) hm hB ⟨⟨{ w with drawn := w.drawn + 1 }, ⟨hW.os, hW.tape, hW.output, hW.size, hW.block⟩⟩, rfl⟩ h
theorem Plain.Grown.cell {W : World} {p : Addr} {v : Value} (h : W.cell? p = some v) (hl : p.block < W.heap.size) (x : Grown W) : x.w.cell? p = some v := (x.ok.cell (p := p) hl).trans h
/-- A call that leaves new blocks alone, as such a walk asks it. -/
theorem Plain.calls_grown {f : FuncId} {args : Array Value} {W : World} {v : Value} (x : Grown W) (h : Calls Tryz.prog f args x.w fun e w' => e = .returned v ∧ Below x.w.heap.size x.w w') :
    Calls Tryz.prog f args x.w fun e w'' => e = .returned v ∧ ∃ y : Grown W, w'' = y.w :=
  h.mono fun e w' ⟨h1, h2⟩ => ⟨h1, ⟨w', x.ok.trans (h2.mono x.ok.size)⟩, rfl⟩
end Go.Proofs.YtjiclgcohpkkjaaGreatDoor


/- The texts of messages: the mathematics; and a builder that leaves other rows alone. -/
namespace Go.Proofs.YtjiclgcohpkkjaaGreatDoor
open Go.RowKit Plain
set_option linter.unusedVariables false

namespace Plain
def numsM (kd fr tt tm ix lg cm : Int) (ok : Bool) : List Int := [kd, fr, tt, tm, ix, lg, cm, if ok then 1 else 0]
def numB (x : Int) : Bool := decide (0 ≤ x) && decide (x ≤ 1000000000000)
def entsB (es : List Ent) : Bool := es.all fun e => entB e.term e.kind e.body
def msgB (ns : List Int) (tx : ByteArray) (es : List Ent) : Bool := ns.all numB && (decide (tx.size ≤ 20000) && decide (es.length ≤ 8)) && entsB es
def pnL (x : Int) : List UInt8 := (putS x).data.toList
def txtL (s : ByteArray) : List UInt8 := (putT s).data.toList
def entPL (e : Ent) : List UInt8 := txtL (entT e.term e.kind e.body)
def catN (ns : List Int) : List UInt8 := ns.flatMap pnL
def catE (es : List Ent) : List UInt8 := es.flatMap entPL
def rowsL (es : List Ent) : List UInt8 := pnL es.length ++ catE es
def msgL (ns : List Int) (tx : ByteArray) (es : List Ent) (v l : List Int) : List UInt8 := if msgB ns tx es then catN ns ++ (txtL tx ++ txtL (strL (confL v l))) ++ rowsL es else []
theorem strL_data (s : ByteArray) : strL s.data.toList = s := rfl
theorem pnL_str (x : Int) : strL (pnL x) = putS x := rfl
theorem txtL_str (s : ByteArray) : strL (txtL s) = putT s := rfl
theorem pnL_len (x : Int) : (pnL x).length ≤ 6 := by have := putS_size x; unfold pnL; rw [Array.length_toList]; exact this
theorem putT_le2 (s : ByteArray) : (putT s).size ≤ 100000 := by
  unfold putT
  by_cases h : s.size ≤ 20000
  · rw [if_pos h, ByteArray.size_append]
    have := putS_size (s.size : Int)
    omega
  · rw [if_neg h]; decide
theorem txtL_len (s : ByteArray) : (txtL s).length ≤ 100000 := by have := putT_le2 s; unfold txtL; rw [Array.length_toList]; exact this
theorem catN_take (ns : List Int) (k : Nat) (h : k < ns.length) : catN (ns.take (k + 1)) = catN (ns.take k) ++ pnL ns[k] := by
  unfold catN
  rw [List.take_succ_eq_append_getElem h, List.flatMap_append]
  simp
theorem catE_take (es : List Ent) (k : Nat) (h : k < es.length) : catE (es.take (k + 1)) = catE (es.take k) ++ entPL es[k] := by
  unfold catE
  rw [List.take_succ_eq_append_getElem h, List.flatMap_append]
  simp
theorem catN_len (ns : List Int) : (catN ns).length ≤ 6 * ns.length := by
  induction ns with
  | nil => simp [catN]
  | cons a t ih => have := pnL_len a; unfold catN at ih ⊢; rw [List.flatMap_cons, List.length_append, List.length_cons]; omega
theorem catE_len (es : List Ent) : (catE es).length ≤ 100000 * es.length := by
  induction es with
  | nil => simp [catE]
  | cons a t ih => have := txtL_len (entT a.term a.kind a.body); unfold catE entPL at ih ⊢; rw [List.flatMap_cons, List.length_append, List.length_cons]; omega
theorem entT_ne {t k : Int} {b : ByteArray} (h : entB t k b = true) : (entT t k b).toList.isEmpty = false := by
  unfold entT
  rw [if_pos h]
  have hs := entB_sizes h
  obtain ⟨_, _, _, _, hb⟩ := entB_yes h
  have h1 := putS_size t
  have h2 := putS_size k
  have h3 := putS_size (b.size : Int)
  have h4 : (putS t ++ putS k ++ putT b).size ≤ 20000 := by
    unfold putT
    rw [if_pos (by omega), ByteArray.size_append, ByteArray.size_append, ByteArray.size_append]
    omega
  unfold frameB
  rw [if_pos ⟨by decide, by decide, h4⟩]
  generalize putS t ++ putS k ++ putT b = body
  have hz : 1 ≤ (sealB 2 body ++ strOfNums (fourL (crcI (sealB 2 body)))).size := by rw [ByteArray.size_append, seal_size]; omega
  generalize sealB 2 body ++ strOfNums (fourL (crcI (sealB 2 body))) = s at hz
  rw [ByteArray.toList_eq, Bool.eq_false_iff]
  intro h
  rw [List.isEmpty_iff] at h
  have hl : s.data.toList.length = s.size := Array.length_toList
  rw [h] at hl
  simp at hl
  omega
theorem entT_no {t k : Int} {b : ByteArray} (h : entB t k b = false) : entT t k b = ⟨#[]⟩ := by
  unfold entT
  rw [if_neg (by rw [h]; simp)]
  rfl
theorem confL_le (v l : List Int) : (confL v l).length ≤ 1000000000000 := by
  unfold confL
  split
  · rename_i hc
    obtain ⟨hv, hl, h7⟩ := confB_l hc
    obtain ⟨-, -, hv7⟩ := confB_v hc
    have lv := numL_len v hv
    have ll := numL_len l hl
    rw [List.length_append, List.length_cons]
    split
    · rw [List.length_nil]; omega
    · rw [List.length_cons, List.length_cons]; omega
  · rw [List.length_nil]; omega
theorem bcl2 {w w' : World} {B : Nat} (h : Below B w w') {g i : Nat} {v : Value} (hg : g < B) (hc : w.cell? ⟨g, i, none⟩ = some v) : w'.cell? ⟨g, i, none⟩ = some v := (h.cell (p := ⟨g, i, none⟩) hg).trans hc
theorem belDrew2 {B : Nat} {w w' : World} (h : Below B w w') : Below B w w'.drew := h.drew
theorem isB_keep {T e : TypeId} {B b : Nat} {bs : List Value} {w w' : World} (h : Lib.IsBuilder T e B b bs w) (hb : Below w.heap.size w w') : Lib.IsBuilder T e B b bs w' := by
  have key : ∀ p, Lib.BuilderAt T e B b p bs w → Lib.BuilderAt T e B b p bs w' := by
    intro p h
    have hl := h.lt
    obtain ⟨h1, v, h2, h3, h4⟩ := h
    refine ⟨h1, v, (hb.block b hl).trans h2, ⟨h3.1, ?_⟩, h4⟩
    have hlt := World.ownsRow.lt h3
    rcases h3.2 with ⟨a, c⟩ | ⟨g, cap, cur, rfl, c, d, r⟩
    · exact .inl ⟨a, c⟩
    · exact .inr ⟨g, cap, cur, rfl, c, (hb.block g (hlt g rfl).2).trans d, r⟩
  rcases h with h | h
  · exact .inl (key _ h)
  · exact .inr (key _ h)
end Plain

set_option maxHeartbeats 1000000 in
set_option maxRecDepth 100000 in
theorem copyCheckK_calls (B b : Nat) (bs : List Value) (w : World) (h : Lib.IsBuilder 78 5 B b bs w) :
    Calls Tryz.prog 81 #[.pointer (some ⟨b, 0, none⟩)] w fun e w' => e = .returned (.tuple #[]) ∧ (Lib.BuilderAt 78 5 B b (.pointer (some ⟨b, 0, none⟩)) bs w' ∧ Below B w w') ∧ ∀ g, g ≠ b → w'.heap[g]? = w.heap[g]? := by
  obtain ⟨j, hj, hjs⟩ := Option.map_eq_some_iff.1 sizeBld
  rcases h with h | h
  · have h0 := h.cell0
    have hsh := h.shape
    have hfz := h.frozen0
    have HH := hide h
    clear h
    go_enter Tryz.func81, Tryz.ntmps81
    go_wp2
    rw [Lib.run_to_unsafe w ⟨b, 0, none⟩ Tryz.underlying76 Tryz.underlying168 hj (by rw [hjs]; decide) hsh (Nat.zero_lt_succ 1)]
    simp only [Result.andThen]
    rw [Oper.upon_value]
    go_wp2
    rw [run_callFunc_extern Tryz.func106 (by kernel_rfl) (by kernel_rfl) (by kernel_rfl) (e := Extern.AbiNoEscape.same) (by kernel_rfl)]
    rw [Lib.run_noEscape]
    simp only [Result.andThen]
    rw [Oper.upon_value]
    go_wp2
    rw [Lib.run_from_unsafe w ⟨b, 0, none⟩ Tryz.underlying168 Tryz.underlying76 hj hsh liesBld]
    simp only [Result.andThen]
    rw [Oper.upon_value]
    go_wp2
    go_end0
    exact ⟨rfl, ⟨(unhide HH).used _, (Below.refl B w).setCell (p := ⟨b, 0, none⟩) (unhide HH).1 _⟩, fun g hg => Below.heap_setCell _ _ _ _ (fun e => hg (by simpa using e))⟩
  · have h0 := h.cell0
    have HH := hide h
    clear h
    go_enter Tryz.func81, Tryz.ntmps81
    go_wp2
    rw [Lib.run_neq_ptr_same w _ Tryz.underlying76 hj]
    go_wp2
    go_end0
    exact ⟨rfl, ⟨unhide HH, Below.refl B _⟩, fun _ _ => rfl⟩

set_option maxHeartbeats 1000000 in
set_option maxRecDepth 100000 in
theorem WriteStringK_calls (B b : Nat) (bs : List Value) (s : ByteArray) (w : World) (h : Lib.IsBuilder 78 5 B b bs w) (hlen : bs.length + s.size ≤ 100000000) (hBw : B ≤ w.heap.size) :
    Calls Tryz.prog 38 #[.pointer (some ⟨b, 0, none⟩), .string s] w fun e w' => e = .returned (.tuple #[.int .i64 s.size, .nilIface]) ∧ (Lib.BuilderAt 78 5 B b (.pointer (some ⟨b, 0, none⟩)) (bs ++ Lib.strCells s) w' ∧ Below B w w') ∧ ∀ g cs t f, g ≠ b → t ≠ 5 → w.heap[g]? = some (.cells cs t f) → w'.heap[g]? = some (.cells cs t f) := by
  obtain ⟨i0, hi, hz0, hz1, hz2⟩ := info_parts infoU8
  have HC := hide (copyCheckK_calls B b bs w h)
  clear h
  go_enter Tryz.func38, Tryz.ntmps38
  go_wp2_with fail
  refine (unhide HC).mono ?_
  rintro e w1 ⟨rfl, ⟨h1, hb1⟩, hk1⟩
  obtain ⟨hB, v, hbk, hown, hne⟩ := h1
  have c0 : w1.cell? ⟨b, 0, none⟩ = some (.pointer (some ⟨b, 0, none⟩)) := by rw [Lib.cell_of_heap hbk]; rfl
  have c1 : w1.cell? ⟨b, 1, none⟩ = some v := by rw [Lib.cell_of_heap hbk]; rfl
  have hz := hb1.size
  go_wp2_with (at_builtin; refine Lib.wpList_append_own_string _ rfl _ _ 33 9 rfl B 5 i0 Tryz.underlying33 Tryz.underlying9 hi hz0 hz1 hz2 _ _ _ rfl hown s rfl ?c3 ?c4 ?c5 ?_)
  case c3 => unfold maxLen; omega
  case c4 => omega
  case c5 => omega
  intro v' w2 hown2 hgrow _
  have hlt : b < w1.heap.size := by
    rcases Nat.lt_or_ge b w1.heap.size with h' | h'
    · exact h'
    · simp [Array.getElem?_eq_none h'] at hbk
  have hb2 : w2.heap[b]? = some (.cells #[.pointer (some ⟨b, 0, none⟩), v] 78 (0, 0)) := (hgrow.block b hlt (fun e => hne e.symm)).trans hbk
  have d0 : w2.cell? ⟨b, 0, none⟩ = some (.pointer (some ⟨b, 0, none⟩)) := by rw [Lib.cell_of_heap hb2]; rfl
  have d1 : w2.cell? ⟨b, 1, none⟩ = some v := by rw [Lib.cell_of_heap hb2]; rfl
  have f1 : w2.frozen? ⟨b, 1, none⟩ = false := Lib.frozen_of_heap hb2 1
  obtain ⟨ao, n2, cap, rfl⟩ : ∃ ao n2 cap, v' = .slice ao n2 cap := by
    rcases hown2.2 with ⟨hv, _⟩ | ⟨g, cap, cur, hv, _⟩
    · exact ⟨_, _, _, hv⟩
    · exact ⟨_, _, _, hv⟩
  go_wp2
  go_ret2
  refine ⟨rfl, ⟨Lib.BuilderAt.put (T := 78) (e := 5) hB hb2 (bs' := bs ++ Lib.strCells s) (by simpa [Lib.strCells_length] using hown2) (by decide), ?_⟩, ?_⟩
  · exact (hb1.grown hgrow (by omega) (fun k hk => (hown.lt k hk).1)).setCell (p := ⟨b, 1, none⟩) hB _
  · intro g cs t f hg ht hc
    have h1 := (hk1 g hg).trans hc
    have hl : g < w1.heap.size := by
      rcases Nat.lt_or_ge g w1.heap.size with h' | h'
      · exact h'
      · simp [Array.getElem?_eq_none h'] at h1
    rw [Below.heap_setCell _ _ _ _ (fun e => hg (by simpa using e)), hgrow.block g hl ?_, h1]
    intro e
    rcases hown.2 with ⟨hv, _⟩ | ⟨g2, cap2, cur2, hv, _, d, _⟩
    · rw [hv] at e; simp [Value.ownBlock] at e
    · rw [hv] at e
      have e2 : g2 = g := by simpa [Value.ownBlock] using e.symm
      subst e2
      rw [h1] at d
      have := Option.some.inj d
      simp at this
      exact ht this.2.1
end Go.Proofs.YtjiclgcohpkkjaaGreatDoor

