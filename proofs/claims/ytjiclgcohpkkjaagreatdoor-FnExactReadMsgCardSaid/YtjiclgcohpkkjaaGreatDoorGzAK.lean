/- Texts of one kind, put together. -/
import Derived.Test.YtjiclgcohpkkjaaGreatDoorGzAJ
import Derived.Test.YtjiclgcohpkkjaaGreatDoorGzAF
import Derived.Lib.Builder
import Derived.Lib.AppendStr
import Derived.Laws.Externs

/- A strings.Builder that is written to, by this program. -/
namespace Go.Proofs.YtjiclgcohpkkjaaGreatDoor
open Go.RowKit Plain
set_option linter.unusedVariables false

theorem sizeBld : (Tryz.prog.info? 78).map (·.size) = some 2 := by kernel_rfl
theorem liesBld : liesAt Tryz.prog Tryz.prog.depth 78 (2 / Tryz.prog.cellsOf 78) 0 78 1 = true := by kernel_rfl
theorem infoU8 : (Tryz.prog.info? 5).map (fun i => (i.zero, i.size, i.bytes)) = some (some (.int .u8 0), 1, 1) := by kernel_rfl

set_option maxHeartbeats 1000000 in
set_option maxRecDepth 100000 in
theorem copyCheck_calls (B b : Nat) (bs : List Value) (w : World) (h : Lib.IsBuilder 78 5 B b bs w) :
    Calls Tryz.prog 81 #[.pointer (some ⟨b, 0, none⟩)] w fun e w' => e = .returned (.tuple #[]) ∧ (Lib.BuilderAt 78 5 B b (.pointer (some ⟨b, 0, none⟩)) bs w' ∧ Below B w w') := by
  obtain ⟨j, hj, hjs⟩ := Option.map_eq_some_iff.1 sizeBld
  rcases h with h | h
  · have h0 := h.cell0
    have hsh := h.shape
    have hfz := h.frozen0
    have HH := hide h
    clear h
    go_enter Tryz.func81, Tryz.ntmps81
    go_wp2
    rw [Lib.run_to_unsafe w ⟨b, 0, none⟩ Tryz.underlying76 Tryz.underlying168 hj (by rw [hjs]; decide) hsh (Nat.zero_lt_succ 1)]
    simp only [Result.andThen]
    rw [Oper.upon_value]
    go_wp2
    rw [run_callFunc_extern Tryz.func106 (by kernel_rfl) (by kernel_rfl) (by kernel_rfl) (e := Extern.AbiNoEscape.same) (by kernel_rfl)]
    rw [Lib.run_noEscape]
    simp only [Result.andThen]
    rw [Oper.upon_value]
    go_wp2
    rw [Lib.run_from_unsafe w ⟨b, 0, none⟩ Tryz.underlying168 Tryz.underlying76 hj hsh liesBld]
    simp only [Result.andThen]
    rw [Oper.upon_value]
    go_wp2
    go_end0
    exact ⟨rfl, (unhide HH).used _, (Below.refl B w).setCell (p := ⟨b, 0, none⟩) (unhide HH).1 _⟩
  · have h0 := h.cell0
    have HH := hide h
    clear h
    go_enter Tryz.func81, Tryz.ntmps81
    go_wp2
    rw [Lib.run_neq_ptr_same w _ Tryz.underlying76 hj]
    go_wp2
    go_end0
    exact ⟨rfl, unhide HH, Below.refl B _⟩

set_option maxHeartbeats 1000000 in
set_option maxRecDepth 100000 in
theorem WriteString_calls (B b : Nat) (bs : List Value) (s : ByteArray) (w : World) (h : Lib.IsBuilder 78 5 B b bs w) (hlen : bs.length + s.size ≤ 100000000) (hBw : B ≤ w.heap.size) :
    Calls Tryz.prog 38 #[.pointer (some ⟨b, 0, none⟩), .string s] w fun e w' => e = .returned (.tuple #[.int .i64 s.size, .nilIface]) ∧ (Lib.BuilderAt 78 5 B b (.pointer (some ⟨b, 0, none⟩)) (bs ++ Lib.strCells s) w' ∧ Below B w w') := by
  obtain ⟨i0, hi, hz0, hz1, hz2⟩ := info_parts infoU8
  have HC := hide (copyCheck_calls B b bs w h)
  clear h
  go_enter Tryz.func38, Tryz.ntmps38
  go_wp2_with fail
  refine (unhide HC).mono ?_
  rintro e w1 ⟨rfl, h1, hb1⟩
  obtain ⟨hB, v, hbk, hown, hne⟩ := h1
  have c0 : w1.cell? ⟨b, 0, none⟩ = some (.pointer (some ⟨b, 0, none⟩)) := by rw [Lib.cell_of_heap hbk]; rfl
  have c1 : w1.cell? ⟨b, 1, none⟩ = some v := by rw [Lib.cell_of_heap hbk]; rfl
  have hz := hb1.size
  go_wp2_with (at_builtin; refine Lib.wpList_append_own_string _ rfl _ _ 33 9 rfl B 5 i0 Tryz.underlying33 Tryz.underlying9 hi hz0 hz1 hz2 _ _ _ rfl hown s rfl ?c3 ?c4 ?c5 ?_)
  case c3 => unfold maxLen; omega
  case c4 => omega
  case c5 => omega
  intro v' w2 hown2 hgrow _
  have hlt : b < w1.heap.size := by
    rcases Nat.lt_or_ge b w1.heap.size with h' | h'
    · exact h'
    · simp [Array.getElem?_eq_none h'] at hbk
  have hb2 : w2.heap[b]? = some (.cells #[.pointer (some ⟨b, 0, none⟩), v] 78 (0, 0)) := (hgrow.block b hlt (fun e => hne e.symm)).trans hbk
  have d0 : w2.cell? ⟨b, 0, none⟩ = some (.pointer (some ⟨b, 0, none⟩)) := by rw [Lib.cell_of_heap hb2]; rfl
  have d1 : w2.cell? ⟨b, 1, none⟩ = some v := by rw [Lib.cell_of_heap hb2]; rfl
  have f1 : w2.frozen? ⟨b, 1, none⟩ = false := Lib.frozen_of_heap hb2 1
  obtain ⟨ao, n2, cap, rfl⟩ : ∃ ao n2 cap, v' = .slice ao n2 cap := by
    rcases hown2.2 with ⟨hv, _⟩ | ⟨g, cap, cur, hv, _⟩
    · exact ⟨_, _, _, hv⟩
    · exact ⟨_, _, _, hv⟩
  go_wp2
  go_ret2
  refine ⟨rfl, Lib.BuilderAt.put (T := 78) (e := 5) hB hb2 (bs' := bs ++ Lib.strCells s) (by simpa [Lib.strCells_length] using hown2) (by decide), ?_⟩
  exact (hb1.grown hgrow (by omega) (fun k hk => (hown.lt k hk).1)).setCell (p := ⟨b, 1, none⟩) hB _

theorem bldExtra : Builder.Extra Tryz.prog Tryz.lays169_ren where
  sizeBuilder := by kernel_rfl
  liesBuilder := by kernel_rfl
  t5 := Tryz.underlying5
  a5 := Tryz.isAgg5
  z5 := Tryz.sizeOf5
  v5 := Tryz.zeroValue5
  infoByte := by kernel_rfl
  cellsByte := by kernel_rfl
  sizeByte := by kernel_rfl
  neB5 := by decide
theorem BString_calls (B b : Nat) (l : List UInt8) (w : World) (h : Lib.IsBuilder 78 5 B b (Lib.byteCells l) w) (hBw : B ≤ w.heap.size) :
    Calls Tryz.prog 45 #[.pointer (some ⟨b, 0, none⟩)] w fun e w' => e = .returned (.string ⟨l.toArray⟩) ∧ Below B w w' := Any.Builder_String_any Tryz.lays169 bldExtra B b l w h hBw

theorem FormatInt_calls (i : Nat) (hi : i < 100) (w : World) :
    Calls Tryz.prog 107 #[.int .i64 i, .int .i64 10] w fun e w' => e = .returned (.string ⟨(Lib.decDigits i).toArray⟩) ∧ w' = w := Any.strconv_FormatInt_10_small Tryz.lays173 i hi w
end Go.Proofs.YtjiclgcohpkkjaaGreatDoor


/- Members as texts: the bytes. -/
namespace Go.Proofs.YtjiclgcohpkkjaaGreatDoor.Plain
open Go
set_option linter.unusedVariables false

def strL (l : List UInt8) : ByteArray := ⟨l.toArray⟩
theorem strL_add (a b : List UInt8) : strL a ++ strL b = strL (a ++ b) := by
  apply ByteArray.ext
  simp [strL]
theorem strL_size (a : List UInt8) : (strL a).size = a.length := by simp [strL, ByteArray.size]
/-- Numbers, each behind a blank. -/
def numL (ls : List Int) : List UInt8 := ls.flatMap fun n => 32 :: Lib.decDigits n.toNat
theorem numL_take (ls : List Int) (k : Nat) (h : k < ls.length) : numL (ls.take (k + 1)) = numL (ls.take k) ++ (32 :: Lib.decDigits ls[k].toNat) := by
  unfold numL
  rw [List.take_succ_eq_append_getElem h, List.flatMap_append]
  simp
theorem dec_len : ∀ n : Fin 51, (Lib.decDigits n.val).length ≤ 2 := by
  intro n
  rw [Lib.decDigits]
  split
  · simp
  · rw [Lib.decDigits, dif_pos (by omega)]
    simp
theorem numL_len (ls : List Int) (h : ∀ a ∈ ls, 1 ≤ a ∧ a ≤ 50) : (numL ls).length ≤ 3 * ls.length := by
  induction ls with
  | nil => simp [numL]
  | cons a l ih =>
    have h1 := ih (fun b hb => h b (by simp [hb]))
    have ha := h a (by simp)
    have h2 := dec_len ⟨a.toNat, by omega⟩
    unfold numL at h1 ⊢
    rw [List.flatMap_cons, List.length_append, List.length_cons, List.length_cons]
    simp only at h2
    omega
theorem numL_take_len (ls : List Int) (h : ∀ a ∈ ls, 1 ≤ a ∧ a ≤ 50) (k : Nat) : (numL (ls.take k)).length ≤ 3 * ls.length := by
  have h1 := numL_len (ls.take k) (fun a ha => h a (List.mem_of_mem_take ha))
  have h2 : (ls.take k).length ≤ ls.length := by rw [List.length_take]; omega
  omega
/-- The text of members. -/
def confL (v l : List Int) : List UInt8 := if confB v l = true then (118 :: numL v) ++ (if l.length = 0 then [] else 32 :: 108 :: numL l) else []
theorem confB_l {v l : List Int} (h : confB v l = true) : (∀ a ∈ v, 1 ≤ a ∧ a ≤ 50) ∧ (∀ a ∈ l, 1 ≤ a ∧ a ≤ 50) ∧ l.length ≤ 7 := by
  unfold confB at h
  simp only [Bool.and_eq_true, decide_eq_true_iff] at h
  refine ⟨fun a ha => ?_, fun a ha => ?_, h.2.2.2⟩
  · have := (okIds_facts v 0 (by decide) h.1.1).2 a ha; omega
  · have := (okIds_facts l 0 (by decide) h.1.2).2 a ha; omega
/-- What a digit more ahead makes of the digits. -/
def decF : Nat → Nat → List UInt8 → List UInt8
  | 0, _, o => o
  | f + 1, n, o => if n = 0 then o else decF f (n / 10) (UInt8.ofNat (48 + n % 10) :: o)
theorem decF_is : ∀ n : Fin 51, n.val ≠ 0 → decF 3 n.val [] = Lib.decDigits n.val := by
  intro n hn
  obtain ⟨n, h⟩ := n
  simp only at hn ⊢
  rw [Lib.decDigits]
  split
  · rename_i hl
    have h1 : n / 10 = 0 := by omega
    have h2 : n % 10 = n := by omega
    simp [decF, hn, h1, h2]
  · rename_i hl
    have h1 : n / 10 ≠ 0 := by omega
    have h2 : n / 10 / 10 = 0 := by omega
    have h3 : n / 10 % 10 = n / 10 := by omega
    rw [Lib.decDigits, dif_pos (by omega)]
    simp [decF, hn, h1, h2, h3]
end Go.Proofs.YtjiclgcohpkkjaaGreatDoor.Plain


/- The text of members, by the program. -/
namespace Go.Proofs.YtjiclgcohpkkjaaGreatDoor
open Go.RowKit Plain
set_option linter.unusedVariables false

theorem Plain.strAdd {a b : ByteArray} (W : World) (h : a.size + b.size ≤ 1000000000000) : (Op.stringOp .add a b).run Tryz.prog W = .ok (.string (a ++ b)) W := by
  have hm : (a.size : Int) + (b.size : Int) ≤ 9223372036854775807 := by omega
  simp [Op.stringOp, hm]

set_option maxRecDepth 10000 in
set_option maxHeartbeats 2000000 in
theorem numbersText_calls (a : Option Addr) (n c : Nat) (ls : List Int) (w : World) (h : IntsAt w a n ls) (hn : n ≤ 100) (hv : ∀ x ∈ ls, 1 ≤ x ∧ x ≤ 50) :
    Calls Tryz.prog 82 #[.slice a n c] w fun e w' => e = .returned (.string (strL (numL ls))) ∧ Below w.heap.size w w' := by
  obtain ⟨W0, hW0⟩ : ∃ W0, W0 = w.alloc (.cells #[.pointer none, .slice none 0 0] 78) := ⟨_, rfl⟩
  have hb0 : Below w.heap.size w W0 := by rw [hW0]; exact bel1 _ _
  have HH := hide h
  have HD := hide (fun (W : World) (hW : Below w.heap.size w W) => h.below hW)
  have HV := hide hv
  have HF := hide (show Lib.IsBuilder 78 5 w.heap.size w.heap.size [] W0 from .inl ⟨Nat.le_refl _, .slice none 0 0, by rw [hW0]; exact (MapKept.heap_alloc w _).1, World.ownsRow_nil _ _ _ _, by simp [Value.ownBlock]⟩)
  have HB0 := hide hb0
  have HW0 := hide hW0.symm
  clear h hv hb0 hW0
  go_enter Tryz.func82, Tryz.ntmps82
  go_wp2_with fail
  rw [unhide HW0]
  go_loopw [8] (fun i wr => ∃ k : Nat, i = .int .i64 k ∧ k ≤ n ∧ Hid (Lib.IsBuilder 78 5 w.heap.size w.heap.size (Lib.byteCells (numL (ls.take k))) wr) ∧ Hid (Below w.heap.size w wr)) (fun i _ => n - (intOf i).toNat)
  case atStart => exact ⟨0, rfl, by omega, HF, HB0⟩
  case round =>
    clear HF HB0
    obtain ⟨k, rfl, hk, HF, HB⟩ := hrel
    by_cases hkn : k < n
    · have hkl : k < ls.length := by rw [(unhide HH).len]; exact hkn
      obtain ⟨g, e1, l1, p0, -⟩ := (unhide HD _ (unhide HB)).row.ix k hkl
      have hst := numL_take ls k hkl
      have hr := unhide HV ls[k] (by simp)
      have hl := numL_take_len ls (unhide HV) k
      rw [(unhide HH).len] at hl
      generalize ls[k] = x at p0 hst hr
      obtain ⟨X, rfl⟩ := Int.eq_ofNat_of_zero_le (show 0 ≤ x by omega)
      have hd := dec_len ⟨X, by omega⟩
      simp only [Int.toNat_natCast] at hst hd
      subst e1
      have i0 : (0 : Int) ≤ (k : Int) := by omega
      have i1 : (k : Int) < (n : Int) := by omega
      have HFI := hide (FormatInt_calls X (by omega) wr)
      have hz := (unhide HB).size
      have hsz : (⟨(Lib.decDigits X).toArray⟩ : ByteArray).size ≤ 2 := by rw [show (⟨(Lib.decDigits X).toArray⟩ : ByteArray) = strL (Lib.decDigits X) from rfl, strL_size]; exact hd
      have hadd := fun W => strAdd (a := ⟨#[32]⟩) (b := ⟨(Lib.decDigits X).toArray⟩) W (by have : (⟨#[32]⟩ : ByteArray).size = 1 := rfl; omega)
      have hcat : (⟨#[32]⟩ : ByteArray) ++ ⟨(Lib.decDigits X).toArray⟩ = strL (32 :: Lib.decDigits X) := strL_add [32] (Lib.decDigits X)
      rw [hcat] at hadd
      have hsl : (strL (32 :: Lib.decDigits X)).size ≤ 3 := by rw [strL_size, List.length_cons]; omega
      have HWS := hide (WriteString_calls w.heap.size w.heap.size _ (strL (32 :: Lib.decDigits X)) wr (unhide HF) (by rw [Lib.byteCells_length]; omega) hz)
      have HST := hide (show Lib.byteCells (numL (ls.take k)) ++ Lib.strCells (strL (32 :: Lib.decDigits X)) = Lib.byteCells (numL (ls.take (k + 1))) from by rw [hst, Lib.strCells_eq]; simp [Lib.byteCells, strL])
      rw [unhide HST] at HWS
      generalize (⟨(Lib.decDigits X).toArray⟩ : ByteArray) = dg at HFI hadd
      generalize strL (32 :: Lib.decDigits X) = tx at hadd HWS
      clear hst hcat hsz hsl hd HST
      go_wp2_with fail
      refine (unhide HFI).mono ?_
      rintro e w1 ⟨rfl, rfl⟩
      go_wp2_with fail
      refine (unhide HWS).mono ?_
      rintro e w2 ⟨rfl, hF2, hb2⟩
      have HF2 := hide (show Lib.IsBuilder 78 5 w.heap.size w.heap.size (Lib.byteCells (numL (ls.take (k + 1)))) w2 from .inr hF2)
      have HB2 := hide ((unhide HB).trans hb2)
      clear hF2 hb2
      go_wp2_with fail
      go_roundw
      case rel => exact ⟨k + 1, by go_num, by omega, HF2, HB2⟩
      case measure => simp [intOf]; omega
    · obtain rfl : k = n := by omega
      have hz := (unhide HB).size
      have HS := hide (BString_calls w.heap.size w.heap.size _ wr (unhide HF) hz)
      rw [List.take_of_length_le (by rw [(unhide HH).len]; exact Nat.le_refl _)] at HS
      rw [show (⟨(numL ls).toArray⟩ : ByteArray) = strL (numL ls) from rfl] at HS
      clear HF
      go_wp2_with fail
      refine (unhide HS).mono ?_
      rintro e w2 ⟨rfl, hb2⟩
      have HB2 := hide ((unhide HB).trans hb2)
      clear hb2
      go_wp2_with fail
      go_ret
      exact ⟨rfl, unhide HB2⟩

set_option maxRecDepth 10000 in
set_option maxHeartbeats 2000000 in
theorem impl_ConfText (av : Option Addr) (nv cv : Nat) (v : List Int) (al : Option Addr) (nl cl : Nat) (l : List Int) (w : World) (h : ConfAt w av nv v al nl l) :
    Calls Tryz.prog 41 #[.agg #[.slice av nv cv, .slice al nl cl]] w fun e w' => e = .returned (.string (strL (confL v l))) ∧ Below w.heap.size w w' := by
  obtain ⟨W0, hW0⟩ : ∃ W0, W0 = w.alloc (.cells #[.slice av nv cv, .slice al nl cl] 25) := ⟨_, rfl⟩
  have hb0 : Below w.heap.size w W0 := by rw [hW0]; exact bel1 _ _
  have hlt : w.heap.size < W0.heap.size := by rw [hW0]; simp
  have c0 : W0.cell? ⟨w.heap.size, 0, none⟩ = some (.slice av nv cv) := by rw [hW0]; simp [go_sem]
  have c1 : W0.cell? ⟨w.heap.size, 1, none⟩ = some (.slice al nl cl) := by rw [hW0]; simp [go_sem]
  have HC := hide (fun (W : World) (hW : Below W0.heap.size W0 W) => And.intro (bcl hW hlt c0) (bcl hW hlt c1))
  have HOK := hide (impl_ConfOk av nv cv v al nl cl l W0 (h.below hb0))
  have HA := hide (fun (W : World) (hW : Below W0.heap.size W0 W) => h.below (belOn hb0 hW))
  have HFIN := hide (fun (W : World) (hW : Below W0.heap.size W0 W) => belOn hb0 hW)
  have hvn := h.v.len
  have hln := h.l.len
  have HW0 := hide hW0.symm
  clear hb0 hW0 hlt h
  cases hc : confB v l with
  | false =>
    have HX := hide (show confL v l = [] from by unfold confL; rw [hc]; rfl)
    rw [hc] at HOK
    clear hc hvn hln
    go_enter Tryz.func41, Tryz.ntmps41
    go_wp2_with fail
    rw [unhide HW0]
    refine (unhide HOK).mono ?_
    rintro e w1 ⟨rfl, hb1⟩
    have HB1 := hide (unhide HFIN _ hb1)
    clear hb1
    go_wp2_with fail
    go_ret
    exact ⟨by rw [unhide HX]; rfl, unhide HB1⟩
  | true =>
    obtain ⟨hv, hl, h7⟩ := confB_l hc
    obtain ⟨-, -, hv7⟩ := confB_v hc
    have lv := numL_len v hv
    have ll := numL_len l hl
    rw [hvn] at hv7 lv
    rw [hln] at h7 ll
    have HNV := hide (fun (W : World) (hW : Below W0.heap.size W0 W) => numbersText_calls av nv cv v W (unhide HA W hW).v (by omega) hv)
    have HNL := hide (fun (W : World) (hW : Below W0.heap.size W0 W) => numbersText_calls al nl cl l W (unhide HA W hW).l (by omega) hl)
    have a1 := fun W => strAdd (a := ⟨#[118]⟩) (b := strL (numL v)) W (by rw [strL_size]; have : (⟨#[118]⟩ : ByteArray).size = 1 := rfl; omega)
    have a2 := fun W => strAdd (a := ⟨#[32, 108]⟩) (b := strL (numL l)) W (by rw [strL_size]; have : (⟨#[32, 108]⟩ : ByteArray).size = 2 := rfl; omega)
    rw [show (⟨#[118]⟩ : ByteArray) ++ strL (numL v) = strL (118 :: numL v) from strL_add [118] (numL v)] at a1
    rw [show (⟨#[32, 108]⟩ : ByteArray) ++ strL (numL l) = strL (32 :: 108 :: numL l) from strL_add [32, 108] (numL l)] at a2
    have a3 := fun W => strAdd (a := strL (118 :: numL v)) (b := strL (32 :: 108 :: numL l)) W (by rw [strL_size, strL_size, List.length_cons, List.length_cons, List.length_cons]; omega)
    rw [strL_add] at a3
    rw [hc] at HOK
    have HX := hide (show confL v l = (118 :: numL v) ++ (if l.length = 0 then [] else 32 :: 108 :: numL l) from by unfold confL; rw [hc]; rfl)
    rw [hln] at HX
    by_cases h0 : nl = 0
    · rw [if_pos h0, List.append_nil] at HX
      rw [unhide HX]
      have h0i : ¬ (0 : Int) < (nl : Int) := by omega
      generalize strL (118 :: numL v) = T1 at a1 a3
      generalize strL (numL v) = S1 at a1 HNV
      clear hc hvn hln hv hl lv ll a2 a3 HX HNL h0
      go_enter Tryz.func41, Tryz.ntmps41
      go_wp2_with fail
      rw [unhide HW0]
      refine (unhide HOK).mono ?_
      rintro e w1 ⟨rfl, hb1⟩
      obtain ⟨q0, q1⟩ := unhide HC _ hb1
      have HB1 := hide hb1
      clear hb1 c0 c1
      go_wp2_with fail
      refine (unhide HNV _ (unhide HB1)).mono ?_
      rintro e w2 ⟨rfl, hb2⟩
      have HB2 := hide (belOn (unhide HB1) hb2)
      clear q0 q1
      obtain ⟨q0, q1⟩ := unhide HC _ (unhide HB2)
      clear hb2
      go_wp2_with fail
      go_ret
      exact ⟨rfl, unhide HFIN _ (unhide HB2)⟩
    · rw [if_neg h0] at HX
      rw [unhide HX]
      have h0i : (0 : Int) < (nl : Int) := by omega
      generalize strL ((118 :: numL v) ++ (32 :: 108 :: numL l)) = T3 at a3
      generalize strL (118 :: numL v) = T1 at a1 a3
      generalize strL (32 :: 108 :: numL l) = T2 at a2 a3
      generalize strL (numL v) = S1 at a1 HNV
      generalize strL (numL l) = S2 at a2 HNL
      clear hc hvn hln hv hl lv ll HX h0
      go_enter Tryz.func41, Tryz.ntmps41
      go_wp2_with fail
      rw [unhide HW0]
      refine (unhide HOK).mono ?_
      rintro e w1 ⟨rfl, hb1⟩
      obtain ⟨q0, q1⟩ := unhide HC _ hb1
      have HB1 := hide hb1
      clear hb1 c0 c1
      go_wp2_with fail
      refine (unhide HNV _ (unhide HB1)).mono ?_
      rintro e w2 ⟨rfl, hb2⟩
      have HB2 := hide (belOn (unhide HB1) hb2)
      clear q0 q1
      obtain ⟨q0, q1⟩ := unhide HC _ (unhide HB2)
      clear hb2
      go_wp2_with fail
      refine (unhide HNL _ (unhide HB2)).mono ?_
      rintro e w3 ⟨rfl, hb3⟩
      have HB3 := hide (belOn (unhide HB2) hb3)
      clear hb3 q0 q1
      go_wp2_with fail
      go_ret
      exact ⟨rfl, unhide HFIN _ (unhide HB3)⟩
end Go.Proofs.YtjiclgcohpkkjaaGreatDoor

