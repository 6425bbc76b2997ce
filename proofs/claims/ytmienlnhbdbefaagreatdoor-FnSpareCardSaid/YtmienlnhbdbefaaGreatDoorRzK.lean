/- Texts of one kind, put together. -/
import Derived.Test.YtmienlnhbdbefaaGreatDoorShlF
import Derived.Test.YtmienlnhbdbefaaGreatDoorRzE
import Derived.Laws.IdiomStrings
import Derived.Test.YtmienlnhbdbefaaGreatDoorMem
import Derived.Deep.QuietTactic
import Derived.BigQuiet
import Derived.Test.YtmienlnhbdbefaaGreatDoorShaMx
import Derived.Test.YtmienlnhbdbefaaGreatDoorRnkM
import Derived.Test.YtmienlnhbdbefaaGreatDoorRzB

/- A number in decimal, by both. -/
namespace Go.Proofs.YtmienlnhbdbefaaGreatDoor
open Go.RowKit Plain
set_option linter.unusedVariables false

namespace Plain
def strD (l : List UInt8) : ByteArray := ⟨l.toArray⟩
theorem strD_add (a b : List UInt8) : strD a ++ strD b = strD (a ++ b) := by
  apply ByteArray.ext
  simp [strD]
theorem strD_size (a : List UInt8) : (strD a).size = a.length := by simp [strD, ByteArray.size]
theorem decD_len : ∀ n : Fin 51, (Lib.decDigits n.val).length ≤ 2 := by
  intro n
  rw [Lib.decDigits]
  split
  · simp
  · rw [Lib.decDigits, dif_pos (by omega)]
    simp
/-- What a digit more ahead makes of the digits. -/
def decG : Nat → Nat → List UInt8 → List UInt8
  | 0, _, o => o
  | f + 1, n, o => if n = 0 then o else decG f (n / 10) (UInt8.ofNat (48 + n % 10) :: o)
theorem decG_is : ∀ n : Fin 51, n.val ≠ 0 → decG 3 n.val [] = Lib.decDigits n.val := by
  intro n hn
  obtain ⟨n, h⟩ := n
  simp only at hn ⊢
  rw [Lib.decDigits]
  split
  · rename_i hl
    have h1 : n / 10 = 0 := by omega
    have h2 : n % 10 = n := by omega
    simp [decG, hn, h1, h2]
  · rename_i hl
    have h1 : n / 10 ≠ 0 := by omega
    have h2 : n / 10 / 10 = 0 := by omega
    have h3 : n / 10 % 10 = n / 10 := by omega
    rw [Lib.decDigits, dif_pos (by omega)]
    simp [decG, hn, h1, h2, h3]
theorem bel1D (w : World) (o : Obj) : Below w.heap.size w (w.alloc o) := (Below.refl _ _).alloc (Nat.le_refl _) _
theorem belOnD {w W W' : World} (h0 : Below w.heap.size w W) (h1 : Below W.heap.size W W') : Below w.heap.size w W' := h0.trans (h1.mono h0.size)
/-- The text of a number. -/
def decT (n : Nat) : ByteArray := strD (Lib.decDigits n)
theorem decT_size (n : Nat) (h : n ≤ 50) : (decT n).size ≤ 2 := by
  have := decD_len ⟨n, by omega⟩
  rw [decT, strD_size]
  exact this
end Plain

theorem Plain.strAddD {a b : ByteArray} (W : World) (h : a.size + b.size ≤ 1000000000000) : (Op.stringOp .add a b).run Tryz.prog W = .ok (.string (a ++ b)) W := by
  have hm : (a.size : Int) + (b.size : Int) ≤ 9223372036854775807 := by omega
  simp [Op.stringOp, hm]

set_option maxRecDepth 10000 in
set_option maxHeartbeats 2000000 in
theorem l1DecD_calls (n : Nat) (w : World) (h1 : 1 ≤ n) (h2 : n ≤ 50) :
    Calls Tryz.prog 67 #[.int .i64 n] w fun e w' => e = .returned (.string (strD (Lib.decDigits n))) ∧ Below w.heap.size w w' := by
  have HX := hide (decG_is ⟨n, by omega⟩ (by simp; omega))
  simp only at HX
  have hne : ((n : Int) == 0) = false := by rw [beq_eq_false_iff_ne]; omega
  go_enter Tryz.func67, Tryz.ntmps67
  go_wp2_with fail
  go_loopw [0, 3] (fun s0 s3 wr => ∃ (f m : Nat) (o : List UInt8), s0 = .int .i64 m ∧ s3 = .string (strD o) ∧ f ≤ 3 ∧ m ≤ 50 ∧ o.length + f ≤ 3 ∧ m < 10 ^ f ∧ Hid (decG f m o = Lib.decDigits n) ∧ Hid (Below w.heap.size w wr)) (fun s0 _ _ => (intOf s0).toNat)
  case atStart => exact ⟨3, n, [], rfl, rfl, by omega, by omega, by simp, by omega, HX, hide (Below.refl _ _)⟩
  case round =>
    obtain ⟨f, m, o, rfl, rfl, hf, hm, ho, hp, HO, HB⟩ := hrel
    by_cases hm0 : 0 < m
    · obtain ⟨f, rfl⟩ : ∃ f', f = f' + 1 := ⟨f - 1, by
        rcases Nat.eq_zero_or_pos f with h | h
        · subst h; simp at hp; omega
        · omega⟩
      have hst := unhide HO
      rw [decG, if_neg (by omega)] at hst
      have HST := hide hst
      have hm1 : (0 : Int) < (m : Int) := by omega
      obtain ⟨d, hd⟩ : ∃ d : Nat, m % 10 = d := ⟨_, rfl⟩
      obtain ⟨m2, hm2⟩ : ∃ m2 : Nat, m / 10 = m2 := ⟨_, rfl⟩
      rw [hd, hm2] at HST
      have ht : (m : Int) % 10 = (d : Int) := by omega
      have hq : (m : Int) / 10 = (m2 : Int) := by omega
      have hcv := conv1 wr (48 + (d : Int))
      rw [show strOfNums [48 + (d : Int)] = strD [UInt8.ofNat (48 + d)] from by unfold strOfNums strD; rw [List.map_cons, List.map_nil, show (48 + (d : Int)).toNat = 48 + d from by omega]] at hcv
      have hadd := fun W => strAddD (a := strD [UInt8.ofNat (48 + d)]) (b := strD o) W (by rw [strD_size, strD_size, List.length_singleton]; omega)
      rw [strD_add, List.singleton_append] at hadd
      have hm3 : m2 < 10 ^ f := by rw [← hm2]; rw [Nat.pow_succ] at hp; exact Nat.div_lt_of_lt_mul (by rw [Nat.mul_comm]; exact hp)
      generalize hT : strD (UInt8.ofNat (48 + d) :: o) = T at hadd
      generalize strD [UInt8.ofNat (48 + d)] = D at hcv hadd
      have HT := hide hT
      clear hst HO hd hm2 hT hp
      go_wp2_with fail
      go_roundw
      case rel => exact ⟨f, m2, UInt8.ofNat (48 + d) :: o, by first | rfl | (simp [hq]), by rw [unhide HT], by omega, by omega, by rw [List.length_cons]; omega, hm3, HST, hide (belOnD (unhide HB) (bel1D _ _))⟩
      case measure => simp [intOf]; omega
    · obtain rfl : m = 0 := by omega
      have hst := unhide HO
      have HF := hide (show o = Lib.decDigits n from by rw [← hst]; cases f <;> simp [decG])
      clear hst HO
      rw [unhide HF]
      go_wp2_with fail
      go_ret
      exact ⟨rfl, unhide HB⟩

theorem formatInt_dec (n : Nat) (w : World) (h : n ≤ 50) :
    Calls Tryz.prog 60 #[.int .i64 n, .int .i64 10] w fun e w' => e = .returned (.string (decT n)) ∧ w' = w := Any.strconv_FormatInt_10_small Tryz.lays173 n (by omega) w
end Go.Proofs.YtmienlnhbdbefaaGreatDoor


/- Regions that draw their order and whose callees may make new blocks: one walk in the order of the text. -/
namespace Go.Proofs.YtmienlnhbdbefaaGreatDoor
open Go.RowKit Plain
set_option linter.unusedVariables false

/-- A world that has grown out of W: new blocks alone. -/
structure Plain.Grown (W : World) where
  w : World
  ok : Below W.heap.size W w
theorem Plain.region_grown {id : Nat} {Q : Exit → Act → World → Prop} {a : Act} {w : World} {l : List Oper} (hm : Tryz.prog.follows .mixedOrders = true) (hB : Region.lexB .any l.toArray = true) (W : World) (hW : Below W.heap.size W w)
    (h : wpQuiet Tryz.prog l.toArray (fun w' => ∃ x : Grown W, w' = x.w) (fun a' => ∀ w', (∃ x : Grown W, w' = x.w) → Q .normal a' w') l a) : (Code.region id l.toArray true).wp Tryz.prog Q a w :=
  wp_region_quiet (C := fun w' => ∃ x : Grown W, w' = x.w) hm hB ⟨⟨{ w with drawn := w.drawn + 1 }, ⟨hW.os, hW.tape, hW.output, hW.size, hW.block⟩⟩, rfl⟩ h
theorem Plain.Grown.cell {W : World} {p : Addr} {v : Value} (h : W.cell? p = some v) (hl : p.block < W.heap.size) (x : Grown W) : x.w.cell? p = some v := (x.ok.cell (p := p) hl).trans h
/-- A call that leaves new blocks alone, as such a walk asks it. -/
theorem Plain.calls_grown {f : FuncId} {args : Array Value} {W : World} {v : Value} (x : Grown W) (h : Calls Tryz.prog f args x.w fun e w' => e = .returned v ∧ Below x.w.heap.size x.w w') :
    Calls Tryz.prog f args x.w fun e w'' => e = .returned v ∧ ∃ y : Grown W, w'' = y.w :=
  h.mono fun e w' ⟨h1, h2⟩ => ⟨h1, ⟨w', x.ok.trans (h2.mono x.ok.size)⟩, rfl⟩
end Go.Proofs.YtmienlnhbdbefaaGreatDoor


/- The weight of a node for a digest, by both. -/
namespace Go.Proofs.YtmienlnhbdbefaaGreatDoor
open Go.RowKit Plain
set_option linter.unusedVariables false

namespace Plain
def wt (d : ByteArray) (n : Int) : Int := mxI d (decT n.toNat)
theorem wt_nat (d : ByteArray) (n : Nat) : wt d (n : Int) = mxI d (decT n) := rfl
def nodB (n : Int) : Bool := decide (1 ≤ n) && decide (n ≤ 50)
theorem nodB_iff (n : Int) : nodB n = true ↔ 1 ≤ n ∧ n ≤ 50 := by simp [nodB]
theorem digB_len71 {d : ByteArray} (h : digB d = true) : d.size = 71 := by
  by_cases h1 : d.size = 71
  · exact h1
  · rw [digB_size h1] at h; cases h
end Plain

set_option maxRecDepth 10000 in
theorem nodeIdW_calls (n : Int) (w : World) : Calls Tryz.prog 50 #[.int .i64 n] w fun e w' => e = .returned (.bool (nodB n)) ∧ w = w' := by
  by_cases h1 : 1 ≤ n <;> by_cases h2 : n ≤ 50 <;>
    (go_enter Tryz.func50, Tryz.ntmps50
     go_wp2
     go_ret
     exact ⟨by simp [nodB, h1, h2], rfl⟩)

set_option maxRecDepth 10000 in
theorem l13Weight_calls (d : ByteArray) (n : Nat) (w : World) (hd : d.size = 71) (h1 : 1 ≤ n) (h2 : n ≤ 50) :
    Calls Tryz.prog 48 #[.string d, .int .i64 n] w fun e w' => e = .returned (.int .u64 (wt d n)) ∧ Below w.heap.size w w' := by
  have hds := decT_size n h2
  have HD := hide (fun W => l1DecD_calls n W h1 h2)
  have HM := hide (fun W => specMixed_calls d (decT n) W (by omega) (by omega))
  rw [← wt_nat] at HM
  change Hid (∀ W, Calls Tryz.prog 67 #[.int .i64 n] W fun e w' => e = .returned (.string (decT n)) ∧ Below W.heap.size W w') at HD
  generalize wt d n = R at HM
  generalize decT n = T at HD HM
  clear hd hds h1 h2
  go_enter Tryz.func48, Tryz.ntmps48
  go_wp2_with fail
  refine (unhide HD _).mono ?_
  rintro e w1 ⟨rfl, hb1⟩
  have HB1 := hide hb1
  clear hb1
  go_wp2_with fail
  refine (unhide HM _).mono ?_
  rintro e w2 ⟨rfl, hb2⟩
  have HB2 := hide (belOnD (unhide HB1) hb2)
  clear hb2
  go_wp2_with fail
  go_ret
  exact ⟨rfl, unhide HB2⟩

set_option maxRecDepth 10000 in
theorem weigh_calls (d : ByteArray) (n : Nat) (g : Nat) (w : World) (hK : KAt w) (hd : d.size = 71) (h2 : n ≤ 50) (hg : w.cell? ⟨g, 0, none⟩ = some (.string d)) :
    Calls Tryz.prog 58 #[.int .i64 n, .pointer (some ⟨g, 0, none⟩)] w fun e w' => e = .returned (.int .u64 (wt d n)) ∧ Below w.heap.size w w' := by
  have h0 : 2 < w.heap.size := lt_of_cell (hK 0 (by omega))
  have hgl : g < w.heap.size := lt_of_cell hg
  have hds := decT_size n h2
  have HD := hide (fun W => formatInt_dec n W h2)
  have HM := hide (fun W (h : KAt W) => implMixed_calls d (decT n) W h (by omega) (by omega))
  rw [← wt_nat] at HM
  have HK := hide (fun x : Grown w => hK.below x.ok h0)
  have hc := fun x : Grown w => Grown.cell (p := ⟨g, 0, none⟩) hg hgl x
  have hne : Nonempty (Grown w) := ⟨⟨w, Below.refl _ _⟩⟩
  generalize wt d n = R at HM
  generalize decT n = T at HD HM
  clear hd hds h2 hK hg
  go_enter Tryz.func58, Tryz.ntmps58
  go_wp2_with fail
  refine region_grown (by kernel_rfl) (by kernel_rfl) w (Below.refl _ _) ?_
  repeat (go_big_quiet_step (first | (go_at_call 60; exact calls_grown _ ((unhide HD _).mono fun e w' ⟨h1, h2⟩ => ⟨h1, by rw [h2]; exact Below.refl _ _⟩)) | (go_at_call 59; exact calls_grown _ (unhide HM _ (unhide HK _)))))
  refine wpQuiet_nil ?_
  rintro w' ⟨x, rfl⟩
  have hb := x.ok
  clear hc
  go_wp2_with fail
  go_ret
  exact ⟨rfl, hb⟩
end Go.Proofs.YtmienlnhbdbefaaGreatDoor


/- Nodes by their weights, by the specification. -/
namespace Go.Proofs.YtmienlnhbdbefaaGreatDoor
open Go.RowKit Plain
set_option linter.unusedVariables false

/-- Words as elements. -/
def u64E : Elem Int where
  E := 49
  S := 89
  n := 1
  bytes := 8
  zero := .int .u64 0
  enc := fun z => [.int .u64 z]
  hund := Tryz.underlying89
  hinfo := by kernel_rfl
  hz := rfl
  hn := by decide
  hb := by decide
  hlen := fun _ => rfl
  hone := fun x u hu => by simp at hu; subst hu; rfl

theorem OwnR.asome {α : Type} {e : Elem α} {W : World} {B : Nat} {v : Value} {xs : List α} (h : OwnR e W B v xs) (hp : 0 < xs.length) : ∃ g c, v = .slice (some ⟨g, 0, none⟩) xs.length c := by
  rcases h.2 with ⟨_, c⟩ | ⟨g, cap, cur, a, _⟩
  · omega
  · exact ⟨g, cap, a⟩
theorem OwnR.beside {α β : Type} {e : Elem α} {e' : Elem β} {W w' : World} {B B' : Nat} {v v' : Value} {xs : List α} {ys : List β} {o : Obj} (h : OwnR e W B v xs) (ho : OwnR e' W B' v' ys) (hne : e.E ≠ e'.E) (hg : (W.alloc o).grownBy w' v'.ownBlock) : OwnR e w' B v xs := by
  refine ⟨h.1, ?_⟩
  rcases h.2 with ⟨a, c⟩ | ⟨g, cap, cur, a, c, d, r⟩
  · exact .inl ⟨a, c⟩
  · have hl : g < W.heap.size := by
      rcases Nat.lt_or_ge g W.heap.size with q | q
      · exact q
      · rw [Array.getElem?_eq_none q] at d; cases d
    refine .inr ⟨g, cap, cur, a, c, ?_, r⟩
    rw [hg.block g (by simp; omega) ?_, Below.heap_alloc W o g hl]
    · exact d
    · intro e0
      rcases ho.2 with ⟨a', _⟩ | ⟨g', cap', cur', a', _, d', _⟩
      · rw [a'] at e0; cases e0
      · rw [a'] at e0
        have : g = g' := by simpa [Value.ownBlock] using e0
        subst this
        rw [d] at d'
        simp at d'
        exact hne d'.2

/-- Two rows of one length, of numbers and of words, that the call owns. -/
structure Plain.TwoR (W : World) (B g1 c1 g2 c2 n : Nat) (xs ys : List Int) : Prop where
  r1 : OwnR i64E W B (.slice (some ⟨g1, 0, none⟩) n c1) xs
  r2 : OwnR u64E W B (.slice (some ⟨g2, 0, none⟩) n c2) ys
section
variable {W : World} {B g1 c1 g2 c2 n : Nat} {xs ys : List Int}
theorem Plain.TwoR.l1 (h : TwoR W B g1 c1 g2 c2 n xs ys) : xs.length = n := by
  obtain ⟨a, c, e⟩ := h.r1.form
  simp at e
  exact e.2.1.symm
theorem Plain.TwoR.l2 (h : TwoR W B g1 c1 g2 c2 n xs ys) : ys.length = n := by
  obtain ⟨a, c, e⟩ := h.r2.form
  simp at e
  exact e.2.1.symm
theorem Plain.TwoR.ne (h : TwoR W B g1 c1 g2 c2 n xs ys) : g1 ≠ g2 := by
  intro e
  subst e
  rcases h.r1.2 with ⟨a, _⟩ | ⟨g, cap, cur, a, _, d, _⟩
  · simp at a
  · rcases h.r2.2 with ⟨a', _⟩ | ⟨g', cap', cur', a', _, d', _⟩
    · simp at a'
    · simp at a a'
      obtain ⟨rfl, _⟩ := a
      obtain ⟨rfl, _⟩ := a'
      rw [d] at d'
      simp at d'
      exact absurd d'.2 (by decide)
theorem Plain.TwoR.b1 (h : TwoR W B g1 c1 g2 c2 n xs ys) : B ≤ g1 ∧ g1 < W.heap.size := World.ownsRow.lt h.r1 g1 rfl
theorem Plain.TwoR.b2 (h : TwoR W B g1 c1 g2 c2 n xs ys) : B ≤ g2 ∧ g2 < W.heap.size := World.ownsRow.lt h.r2 g2 rfl
theorem Plain.TwoR.p1 (h : TwoR W B g1 c1 g2 c2 n xs ys) (k : Nat) {z : Int} (hv : xs[k]? = some z) : W.cell? ⟨g1, k, none⟩ = some (.int .i64 z) := by
  obtain ⟨hk, rfl⟩ := List.getElem?_eq_some_iff.1 hv
  obtain ⟨g, e, _, hc⟩ := h.r1.at k hk
  cases e
  have := (hc 0 (by decide)).1
  rwa [show k * i64E.n + 0 = k from by show k * 1 + 0 = k; omega] at this
theorem Plain.TwoR.p2 (h : TwoR W B g1 c1 g2 c2 n xs ys) (k : Nat) {z : Int} (hv : ys[k]? = some z) : W.cell? ⟨g2, k, none⟩ = some (.int .u64 z) := by
  obtain ⟨hk, rfl⟩ := List.getElem?_eq_some_iff.1 hv
  obtain ⟨g, e, _, hc⟩ := h.r2.at k hk
  cases e
  have := (hc 0 (by decide)).1
  rwa [show k * u64E.n + 0 = k from by show k * 1 + 0 = k; omega] at this
theorem Plain.TwoR.f1 (h : TwoR W B g1 c1 g2 c2 n xs ys) (k : Nat) : W.frozen? ⟨g1, k, none⟩ = false := by
  have e := h.l1
  subst e
  exact World.ownsRow.frozenAt h.r1 k
theorem Plain.TwoR.f2 (h : TwoR W B g1 c1 g2 c2 n xs ys) (k : Nat) : W.frozen? ⟨g2, k, none⟩ = false := by
  have e := h.l2
  subst e
  exact World.ownsRow.frozenAt h.r2 k
theorem Plain.ownSetOff {α : Type} {e : Elem α} {b i g n c : Nat} {u : Value} {zs : List α} (h : OwnR e W B (.slice (some ⟨g, 0, none⟩) n c) zs) (hne : b ≠ g) : OwnR e (W.setCell ⟨b, i, none⟩ u) B (.slice (some ⟨g, 0, none⟩) n c) zs := by
  refine ⟨h.1, ?_⟩
  rcases h.2 with ⟨a, _⟩ | ⟨g', cap, cur, a, c, d, r⟩
  · simp at a
  · refine .inr ⟨g', cap, cur, a, c, ?_, r⟩
    have : g = g' := by simp at a; exact a.1
    rw [Below.heap_setCell _ _ _ _ (by simp; omega)]
    exact d
theorem Plain.TwoR.set1 (h : TwoR W B g1 c1 g2 c2 n xs ys) (k : Nat) (hk : k < xs.length) (y : Int) : TwoR (W.setCell ⟨g1, k, none⟩ (.int .i64 y)) B g1 c1 g2 c2 n (xs.set k y) ys := by
  have := OwnR.setJ (e := i64E) h.r1 h.l1 k hk 0 (by decide) (.int .i64 y) y rfl
  rw [show k * i64E.n + 0 = k from by show k * 1 + 0 = k; omega] at this
  exact ⟨this, ownSetOff h.r2 h.ne⟩
theorem Plain.TwoR.set2 (h : TwoR W B g1 c1 g2 c2 n xs ys) (k : Nat) (hk : k < ys.length) (y : Int) : TwoR (W.setCell ⟨g2, k, none⟩ (.int .u64 y)) B g1 c1 g2 c2 n xs (ys.set k y) := by
  have := OwnR.setJ (e := u64E) h.r2 h.l2 k hk 0 (by decide) (.int .u64 y) y rfl
  rw [show k * u64E.n + 0 = k from by show k * 1 + 0 = k; omega] at this
  exact ⟨ownSetOff h.r1 (Ne.symm h.ne), this⟩
end

set_option maxRecDepth 10000 in
set_option maxHeartbeats 4000000 in
theorem l13Ranked_calls (d : ByteArray) (a : Option Addr) (n c : Nat) (ls : List Int) (w : World) (h : IntsAt w a n ls) (hok : okIds 0 ls = true) (hd : d.size = 71) :
    Calls Tryz.prog 29 #[.string d, .slice a n c] w fun e w' => ∃ v, e = .returned v ∧ OwnR i64E w' w.heap.size v (rk (wt d) ls) ∧ Below w.heap.size w w' := by
  have hall := (okIds_facts ls 0 (by decide) hok).2
  have HW := hide (fun (W : World) (N : Nat) (h1 : 1 ≤ N) (h2 : N ≤ 50) => l13Weight_calls d N W hd h1 h2)
  generalize wt d = f at HW ⊢
  have HH := hide h
  have HD := hide (fun (W : World) (hW : Below w.heap.size w W) => h.below hW)
  have hbn := h.bn
  have hln := h.len
  have HALL := hide hall
  have HLN := hide hln
  clear h hok hd hall hln
  obtain ⟨W0, hW0⟩ : ∃ W0, W0 = (w.alloc (.cells #[] 2)).alloc (.cells #[] 49) := ⟨_, rfl⟩
  have HB0 := hide (show Below w.heap.size w W0 from by rw [hW0]; exact belOnD (bel1D _ _) (bel1D _ _))
  have HO1 := hide (show OwnR i64E W0 w.heap.size (.slice (some ⟨w.heap.size, 0, none⟩) 0 0) [] from by rw [hW0]; exact OwnR.keep (ownR_empty i64E w w.heap.size (Nat.le_refl _)) (bel1D _ _))
  have HO2 := hide (show OwnR u64E W0 w.heap.size (.slice (some ⟨w.heap.size + 1, 0, none⟩) 0 0) [] from by
    rw [hW0]
    have := ownR_empty u64E (w.alloc (.cells #[] 2)) w.heap.size (by simp)
    rw [show (w.alloc (.cells #[] 2)).heap.size = w.heap.size + 1 from by simp] at this
    exact this)
  have HW0 := hide hW0.symm
  clear hW0
  go_enter Tryz.func29, Tryz.ntmps29
  go_wp2_with fail
  rw [unhide HW0]
  go_loopw [5, 6, 7] (fun s5 s6 s7 wr => ∃ k : Nat, s7 = .int .i64 k ∧ k ≤ n ∧ w.heap.size ≤ wr.heap.size ∧ Hid (OwnR i64E wr w.heap.size s5 (rk f (ls.take k))) ∧ Hid (OwnR u64E wr w.heap.size s6 ((rk f (ls.take k)).map f)) ∧ Hid (Below w.heap.size w wr)) (fun _ _ s7 _ => n - (intOf s7).toNat)
  case atStart => exact ⟨0, rfl, by omega, (unhide HB0).size, HO1, HO2, HB0⟩
  case round =>
    clear HO1 HO2 HB0 HW0
    obtain ⟨k, rfl, hk, hz, HO1, HO2, HB⟩ := hrel
    by_cases hkn : k < n
    · have hkl : k < ls.length := by rw [unhide HLN]; exact hkn
      have hsr := rk_take f ls k hkl
      have hr := unhide HALL ls[k] (by simp)
      have hol : (rk f (ls.take k)).length = k := by rw [rk_len, List.length_take]; omega
      have HCK := hide (fun (W : World) (hW : Below w.heap.size w W) => (unhide HD W hW).row.ix k hkl)
      generalize ls[k] = x at HCK hsr hr
      generalize rk f (ls.take k) = o at HO1 HO2 hsr hol
      obtain ⟨X, rfl⟩ := Int.eq_ofNat_of_zero_le (show 0 ≤ x by omega)
      have HSR := hide hsr
      obtain ⟨a1, c1, hv1⟩ := (unhide HO1).form
      obtain ⟨a2, c2, hv2⟩ := (unhide HO2).form
      rw [List.length_map] at hv2
      rw [hol] at hv1 hv2
      subst hv1 hv2
      have hlen1 : o.length < 100000000 := by omega
      have hlen2 : (o.map f).length < 100000000 := by rw [List.length_map]; omega
      have HOL := hide hol
      have HWX := hide (unhide HW wr X (by omega) (by omega))
      have i0 : (0 : Int) ≤ (k : Int) := by omega
      have i1 : (k : Int) < (n : Int) := by omega
      obtain ⟨g, e1, l1, p0, -⟩ := unhide HCK wr (unhide HB)
      subst e1
      have HCK2 := hide (fun (W : World) (hW : Below w.heap.size w W) => (show W.cell? ⟨g, k, none⟩ = some (.int .i64 (X : Int)) from by
        obtain ⟨g', e1, -, p0', -⟩ := unhide HCK W hW
        cases e1
        exact p0'))
      clear hsr hol hr HCK HD l1
      go_wp2_with fail
      refine (unhide HWX).mono ?_
      rintro e w1 ⟨rfl, hb1⟩
      have hz1 := hb1.size
      have HB1 := hide ((unhide HB).trans (hb1.mono hz))
      have HP1 := hide ((unhide HO1).keep hb1)
      have HP2 := hide ((unhide HO2).keep hb1)
      have hz2 : w.heap.size ≤ w1.heap.size := by omega
      have p1 := unhide HCK2 w1 (unhide HB1)
      clear hb1 p0 HO1 HO2 HB HWX hz1
      have HQ1 := hide (show (o ++ [(X : Int)]).length = k + 1 from by rw [List.length_append, unhide HOL]; rfl)
      have HQ2 := hide (show (o.map f ++ [f (X : Int)]).length = k + 1 from by rw [List.length_append, List.length_map, unhide HOL]; rfl)
      go_wp2_with (first
        | (at_builtin; refine appR (e := i64E) rfl _ _ rfl (unhide HP1) rfl (X : Int) rfl _ rfl rfl hlen1 hz2 ?_; intro v' w6 hown6 hb6 hg6; obtain ⟨a3, c3, hv'⟩ := hown6.asome (by simp); rw [unhide HQ1] at hv'; subst hv'; have HR1 := hide hown6; have HR2 := hide ((unhide HP2).beside (unhide HP1) (by decide) hg6); have hz6 : w.heap.size ≤ w6.heap.size := Nat.le_trans hz2 hb6.size; have HB6 := hide ((unhide HB1).trans hb6); clear hown6 hb6 hg6 p1)
        | (at_builtin; refine appR (e := u64E) rfl _ _ rfl (unhide HR2) rfl (f (X : Int)) rfl _ rfl rfl hlen2 hz6 ?_; intro v'' w7 hown7 hb7 hg7; obtain ⟨a4, c4, hv''⟩ := hown7.asome (by simp); rw [unhide HQ2] at hv''; subst hv''; have HT1 := hide ((unhide HR1).beside (unhide HR2) (by decide) hg7); have HT2 := hide hown7; have hz7 : w.heap.size ≤ w7.heap.size := Nat.le_trans hz6 hb7.size; have HB7 := hide ((unhide HB6).trans hb7); clear hown7 hb7 hg7))
      have HTT := hide (show TwoR w7 w.heap.size a3 c3 a4 c4 (k + 1) (insAt (X : Int) o k) (insAt (f (X : Int)) (o.map f) k) from by
        have e1 := ins_end o (X : Int)
        have e2 := ins_end (o.map f) (f (X : Int))
        rw [unhide HOL] at e1
        rw [List.length_map, unhide HOL] at e2
        rw [e1, e2]
        exact ⟨unhide HT1, unhide HT2⟩)
      have HSR2 := hide (show rk f (ls.take (k + 1)) = insAt (X : Int) o (posK f (X : Int) o k) from by rw [unhide HSR, insK, unhide HOL])
      clear HT1 HT2 HR1 HR2 HP1 HP2 HB1 HB6 HQ1 HQ2 HSR hz2 hz6 hz hlen1 hlen2
      go_loopw [9] (fun s9 wq => ∃ (j : Nat) (s t : Int), s9 = .int .i64 j ∧ j ≤ k ∧ Hid (posK f (X : Int) o k = posK f (X : Int) o j) ∧ w.heap.size ≤ wq.heap.size ∧ Hid (TwoR wq w.heap.size a3 c3 a4 c4 (k + 1) (insAt s o j) (insAt t (o.map f) j)) ∧ Hid (Below w.heap.size w wq)) (fun s9 _ => (intOf s9).toNat)
      case atStart => exact ⟨k, _, _, rfl, Nat.le_refl _, hide rfl, hz7, HTT, HB7⟩
      case round =>
        clear HTT HB7 hz7
        obtain ⟨j, s, t, rfl, hj, HPJ, hzq, HTT, HBQ⟩ := hrel
        have pk := unhide HCK2 wr (unhide HBQ)
        have HL1 := hide (show j < (insAt s o j).length from by rw [insAt_length, unhide HOL]; omega)
        have HL2 := hide (show j < (insAt t (o.map f) j).length from by rw [insAt_length, List.length_map, unhide HOL]; omega)
        have hf1 := (unhide HTT).f1 j
        have hf2 := (unhide HTT).f2 j
        have hc1 := (unhide HTT).p1 j (List.getElem?_eq_getElem (unhide HL1))
        have HSET := hide (fun (y z : Int) => ((unhide HTT).set1 j (unhide HL1) y).set2 j (unhide HL2) z)
        have HBS := hide (fun (y z : Int) => (((unhide HBQ).setCell (p := ⟨a3, j, none⟩) (unhide HTT).b1.1 (.int .i64 y)).setCell (p := ⟨a4, j, none⟩) (unhide HTT).b2.1 (.int .u64 z)))
        have hc2 : ∀ y : Int, (wr.setCell ⟨a3, j, none⟩ (.int .i64 y)).cell? ⟨a4, j, none⟩ = some (.int .u64 ((insAt t (o.map f) j)[j]'(unhide HL2))) := fun y => ((unhide HTT).set1 j (unhide HL1) y).p2 j (List.getElem?_eq_getElem (unhide HL2))
        have hg2 : ∀ y : Int, (wr.setCell ⟨a3, j, none⟩ (.int .i64 y)).frozen? ⟨a4, j, none⟩ = false := fun y => ((unhide HTT).set1 j (unhide HL1) y).f2 j
        have HEND := hide (show posK f (X : Int) o k = j → TwoR ((wr.setCell ⟨a3, j, none⟩ (.int .i64 (X : Int))).setCell ⟨a4, j, none⟩ (.int .u64 (f (X : Int)))) w.heap.size a3 c3 a4 c4 (k + 1) (rk f (ls.take (k + 1))) ((rk f (ls.take (k + 1))).map f) from fun e => by
          have := unhide HSET (X : Int) (f (X : Int))
          rw [ins_set o s (X : Int) j (by rw [unhide HOL]; exact hj), ins_set (o.map f) t (f (X : Int)) j (by rw [List.length_map, unhide HOL]; exact hj)] at this
          rw [unhide HSR2, e, ins_map]
          exact this)
        generalize (insAt t (o.map f) j)[j]'(unhide HL2) = z2 at hc2
        generalize (insAt s o j)[j]'(unhide HL1) = z1 at hc1
        have j1 : (0 : Int) ≤ (j : Int) := by omega
        have j2 : (j : Int) < ((k + 1 : Nat) : Int) := by omega
        by_cases hj0 : j = 0
        · subst hj0
          have HE := hide (unhide HEND (unhide HPJ))
          clear HSET HEND HPJ HTT
          go_wp2_with fail
          go_roundw
          case rel => exact ⟨k + 1, by go_num, by omega, by have := (unhide HBS (X : Int) (f (X : Int))).size; omega, hide (unhide HE).r1, hide (unhide HE).r2, hide (unhide HBS _ _)⟩
          case measure => simp [intOf]; omega
        · obtain ⟨m, rfl⟩ : ∃ m, j = m + 1 := ⟨j - 1, by omega⟩
          have hm : m < o.length := by rw [unhide HOL]; omega
          have hm2 : m < (o.map f).length := by rw [List.length_map]; exact hm
          have hcw := (unhide HTT).p2 m (ins_get (o.map f) t m hm2)
          rw [List.getElem_map] at hcw
          have hco := (unhide HTT).p1 m (ins_get o s m hm)
          have HPM := hide (show posK f (X : Int) o k = if f o[m] < f (X : Int) then posK f (X : Int) o m else m + 1 from by rw [unhide HPJ, posK, List.getD_eq_getElem?_getD, List.getElem?_eq_getElem hm]; rfl)
          have HSH := hide (show TwoR ((wr.setCell ⟨a3, m + 1, none⟩ (.int .i64 o[m])).setCell ⟨a4, m + 1, none⟩ (.int .u64 (f o[m]))) w.heap.size a3 c3 a4 c4 (k + 1) (insAt o[m] o m) (insAt (f o[m]) (o.map f) m) from by
            have := unhide HSET o[m] (f o[m])
            rw [ins_shift o s m hm] at this
            have h2 := ins_shift (o.map f) t m hm2
            rw [List.getElem_map] at h2
            rw [h2] at this
            exact this)
          have hcw2 : ∀ y : Int, (wr.setCell ⟨a3, m + 1, none⟩ (.int .i64 y)).cell? ⟨a4, m, none⟩ = some (.int .u64 (f o[m])) := fun y => by
            have := ((unhide HTT).set1 (m + 1) (unhide HL1) y).p2 m (ins_get (o.map f) t m hm2)
            rwa [List.getElem_map] at this
          have HBS2 := hide (unhide HBS o[m] (f o[m]))
          generalize o[m] = y at hcw hco HPM HSH hcw2 HBS2
          have m1 : (0 : Int) ≤ (m : Int) := by omega
          have m2 : (m : Int) < ((k + 1 : Nat) : Int) := by omega
          have m3 : (0 : Int) < ((m + 1 : Nat) : Int) := by omega
          obtain ⟨fy, hfy⟩ : ∃ fy, f y = fy := ⟨_, rfl⟩
          obtain ⟨fx, hfx⟩ : ∃ fx, f (X : Int) = fx := ⟨_, rfl⟩
          rw [hfy] at hcw HPM HSH hcw2 HBS2
          rw [hfx] at HPM HEND
          have HBX := hide (unhide HBS (X : Int) fx)
          clear HSET HTT hm hm2 HBS HL1 HL2
          rw [hfx]
          have HFX := hide hfx
          clear hfy hfx
          by_cases hlt : fy < fx
          · have hp := unhide HPM
            rw [if_pos hlt] at hp
            have HP2 := hide hp
            clear hp HPM HEND HBX
            go_wp2_with fail
            go_roundw
            case rel => exact ⟨m, y, fy, by go_num, by omega, HP2, by have := (unhide HBS2).size; omega, HSH, HBS2⟩
            case measure => simp [intOf]
          · have hp := unhide HPM
            rw [if_neg hlt] at hp
            have HE := hide (unhide HEND hp)
            clear hp HPM HEND HSH hcw2 hco HBS2
            go_wp2_with fail
            go_roundw
            case rel => exact ⟨k + 1, by go_num, by omega, by have := (unhide HBX).size; omega, hide (unhide HE).r1, hide (unhide HE).r2, hide (unhide HBX)⟩
            case measure => simp [intOf]; omega
    · obtain rfl : k = n := by omega
      rw [List.take_of_length_le (by rw [unhide HLN]; exact Nat.le_refl _)] at HO1
      obtain ⟨a1, c1, hv1⟩ := (unhide HO1).form
      subst hv1
      clear HO2
      go_wp2_with fail
      go_ret
      exact ⟨_, rfl, unhide HO1, unhide HB⟩
end Go.Proofs.YtmienlnhbdbefaaGreatDoor

