/- Texts of one kind, put together. -/
import Derived.Test.YtmienlnhbdbefaaGreatDoorRzP
import Derived.Maps.Own
import Derived.Maps.OwnOps
import Derived.Maps.OwnSet
import Derived.Maps.Views
import Derived.WideKeyEntry
import Derived.StringKeys
import Derived.Test.YtmienlnhbdbefaaGreatDoorRzL
import Derived.Deep.RegionHeld3

/- The program's tables of node sets: a map from a digest to a set of nodes, as 64 bits. -/
namespace Go.Proofs.YtmienlnhbdbefaaGreatDoor
open Go.RowKit Go.Maps Plain
open Go.ChangeMaps (setBlock heap_setBlock_same heap_setBlock_other)
set_option linter.unusedVariables false

namespace Plain
def nsD (n : Nat) : DataW Unit := .lit (.int .u64 n)
/-- How a set of nodes reads that is a map's element. -/
def nsElem (v : Value) : Option (DataW Unit × List MemPlace) := match v with
  | .int .u64 (.ofNat n) => some (nsD n, [])
  | _ => none
theorem nsElem_mk (n : Nat) : nsElem (.int .u64 (n : Int)) = some (nsD n, []) := rfl
theorem nsElem_inv {v : Value} {n : Nat} {ps : List MemPlace} (h : nsElem v = some (nsD n, ps)) : v = .int .u64 (n : Int) := by
  unfold nsElem at h
  split at h
  · next m =>
    simp [nsD] at h
    rw [show (Int.ofNat m) = (m : Int) from rfl, show m = n from by omega]
  · simp at h
def keyS (n : ByteArray) : Lit := .string n.data.toList
theorem keyS_ok (n : ByteArray) : WideAt.IsKeyLit (keyS n) := trivial
theorem keyS_inj {a b : ByteArray} (h : keyS a = keyS b) : a = b := by
  unfold keyS at h
  simp at h
  exact ByteArray.ext h
/-- What is read of such a table: under each digest a set, the empty one where there is none. -/
def NsD (D : DataW Unit) (F : ByteArray → Nat) : Prop := ∀ d, D.atKey (keyS d) (nsD 0) = nsD (F d)
def NsT (W : World) (b m : Nat) (F : ByteArray → Nat) : Prop := ∃ D, W.ownsMap Tryz.prog 9 nsElem b m D ∧ NsD D F
theorem NsD.put {D : DataW Unit} {F : ByteArray → Nat} (h : NsD D F) (hm : IsMap D) (n : ByteArray) (x : Nat) {G : ByteArray → Nat} (h1 : G n = x) (h2 : ∀ d, d ≠ n → G d = F d) : NsD (D.put (keyS n) (nsD x)) G := by
  intro d
  by_cases e : d = n
  · subst e
    rw [h1]
    exact atKey_put_same hm (keyS_ok d) _ _
  · have hne : keyS d ≠ keyS n := fun q => e (keyS_inj q)
    rw [h2 d e, ← h d]
    exact atKey_put_other hne _ _
theorem NsT.lt {W : World} {b m : Nat} {F : ByteArray → Nat} (h : NsT W b m F) : b < W.heap.size := by
  obtain ⟨D, hD, _⟩ := h
  exact hD.lt
theorem NsT.keep {W W' : World} {b m : Nat} {F : ByteArray → Nat} (h : NsT W b m F) (hb : Below W.heap.size W W') : NsT W' b m F := by
  have l := h.lt
  obtain ⟨D, ⟨es, clock, h1, h2⟩, h3⟩ := h
  exact ⟨D, ⟨es, clock, (hb.block b l).trans h1, h2⟩, h3⟩
theorem NsT.of_block {W W' : World} {b m : Nat} {F : ByteArray → Nat} (h : NsT W b m F) (hb : W'.heap[b]? = W.heap[b]?) : NsT W' b m F := by
  obtain ⟨D, ⟨es, clock, h1, h2⟩, h3⟩ := h
  exact ⟨D, ⟨es, clock, hb.trans h1, h2⟩, h3⟩
end Plain
theorem lawK_str : WideMaps.KeyLaw Tryz.prog 9 := WideMaps.string_law Tryz.underlying9
theorem keyed_str : Keyed Tryz.prog 9 := string_keyed Tryz.underlying9
theorem zeroNs (w : World) : (zeroValue 50).run Tryz.prog w = .ok (.int .u64 0) w := by kernel_rfl
theorem keyS_of (d : ByteArray) (h : d.size ≤ 1000000000) : keyOf Tryz.prog 9 (.string d) = some (keyS d) := Go.WideMaps.keyOf_string_mk Tryz.underlying9 (by unfold maxLen; omega)
theorem make_ns (w : World) : (Instr.makeMap 43 none).run Tryz.prog w = .ok (.map (some w.heap.size)) (w.alloc (.map #[] 0)) := by
  simp [Instr.makeMap]
theorem ns_made (w : World) : NsT (w.alloc (.map #[] 0)) w.heap.size 0 (fun _ => 0) := ⟨_, World.ownsMap_made w Tryz.prog 9 nsElem, fun d => rfl⟩
theorem Plain.NsT.look {W : World} {b m : Nat} {F : ByteArray → Nat} (h : NsT W b m F) {d : ByteArray} (hd : d.size ≤ 1000000000) : (Instr.lookup 43 (.map (some b)) (.string d) false).run Tryz.prog W = .ok (.int .u64 (F d : Nat)) W := by
  obtain ⟨D, hown, hD⟩ := h
  obtain ⟨v, ps, hrun, hv⟩ := hown.lookup keyed_str Tryz.underlying43 (zeroNs W) (nsElem_mk 0) (keyS_of d hd)
  rw [hrun]
  rw [hD d] at hv
  rw [nsElem_inv hv]
/-- 'm[d] = f(m[d])': the entry, and what is stored there behind it. -/
theorem Plain.NsT.entry {w : World} {b n : Nat} {F : ByteArray → Nat} (h : NsT w b n F) (hn : n < 100000000) {d : ByteArray} (hd : d.size ≤ 1000000000) :
    ∃ st es1 clock1, (Instr.mapEntry 43 (.map (some b)) (.string d)).run Tryz.prog w = .ok (.tuple #[.int .u64 (F d : Nat), goInt st]) (setBlock w b (.map es1 clock1)) ∧ (setBlock w b (.map es1 clock1)).heap[b]? = some (.map es1 clock1) ∧
      ∀ (w2 : World) (x : Nat), w2.heap[b]? = some (.map es1 clock1) → ∃ es' clock', (Instr.entryStore 43 (.map (some b)) (goInt st) (.int .u64 (x : Int))).run Tryz.prog w2 = .ok () (setBlock w2 b (.map es' clock')) ∧ ∀ G : ByteArray → Nat, G d = x → (∀ y, y ≠ d → G y = F y) → NsT (setBlock w2 b (.map es' clock')) b (n + 1) G := by
  obtain ⟨D, hown0, hD0⟩ := h
  have hkey := keyS_of d hd
  have hown := hown0
  obtain ⟨es, clock, hb, Ft, hs, hD⟩ := hown0
  obtain ⟨v0, st, es1, clock1, hrun, hv, hst⟩ := WideElems.entry_then_store lawK_str Tryz.underlying43 zeroNs hb Ft hkey
  have hv0 : v0 = .int .u64 (F d : Nat) := by
    subst hD
    have hx := hD0 d
    rcases fit_look false keyed_str Tryz.underlying43 (zeroNs w) hb Ft hkey with ⟨_, hno, hat⟩ | ⟨e0, y, he, hk, _, hR, hat, _⟩
    · rcases hv with ⟨e1, he1, hk1, _⟩ | ⟨_, rfl⟩
      · exact absurd hk1 (hno e1 he1)
      · rw [hat] at hx
        exact nsElem_inv (ps := []) (by rw [← hx]; rfl)
    · rcases hv with ⟨e1, he1, hk1, rfl⟩ | ⟨hno, _⟩
      · have hpw : es.toList.Pairwise (fun x y => x.key ≠ y.key) := ((MapKept.stamped_iff es clock).1 Ft.stamped).2.2
        have : e1 = e0 := Classical.byContradiction fun hne => by
          obtain ⟨i, hi, e1i⟩ := List.mem_iff_getElem.1 he1
          obtain ⟨j, hj, e0j⟩ := List.mem_iff_getElem.1 he
          have hpw2 := List.pairwise_iff_getElem.1 hpw
          rcases Nat.lt_trichotomy i j with q | q | q
          · exact hpw2 i j hi hj q (by rw [e1i, e0j]; exact hk1.trans hk.symm)
          · subst q; exact hne (e1i.symm.trans e0j)
          · exact hpw2 j i hj hi q (by rw [e1i, e0j]; exact hk.trans hk1.symm)
        subst this
        rw [hat] at hx
        exact nsElem_inv (ps := y.2) (by rw [← hx]; exact hR)
      · exact absurd hk (hno e0 he)
  subst hv0
  refine ⟨st, es1, clock1, hrun, heap_setBlock_same hb _, fun w2 x hw2 => ?_⟩
  obtain ⟨es', clock', h1, h2⟩ := hst w2 (.int .u64 (x : Int)) hw2
  refine ⟨es', clock', h1, fun G g1 g2 => ?_⟩
  obtain ⟨w', hu, hown', _⟩ := hown.update keyed_str Tryz.underlying43 (by unfold maxLen; omega) hkey (nsElem_mk x)
  rw [h2] at hu
  obtain rfl : setBlock w b (.map es' clock') = w' := by simpa using hu
  obtain ⟨es2, c2, q1, q2⟩ := hown'
  rw [heap_setBlock_same hb] at q1
  cases q1
  exact ⟨_, ⟨es', clock', heap_setBlock_same hw2 _, q2⟩, hD0.put hown.isMap d x g1 g2⟩
/-- 'm[d] = x'. -/
theorem Plain.NsT.upd {w : World} {b n : Nat} {F : ByteArray → Nat} (h : NsT w b n F) (hn : n < 100000000) {d : ByteArray} (hd : d.size ≤ 1000000000) (x : Nat) :
    ∃ w', (Instr.mapUpdate 43 (.map (some b)) (.string d) (.int .u64 (x : Int))).run Tryz.prog w = .ok () w' ∧ (∀ G : ByteArray → Nat, G d = x → (∀ y, y ≠ d → G y = F y) → NsT w' b (n + 1) G) ∧ w.grownBy w' (some b) := by
  obtain ⟨D, hown, hD⟩ := h
  obtain ⟨w', hrun, r1, r2⟩ := hown.update keyed_str Tryz.underlying43 (by unfold maxLen; omega) (keyS_of d hd) (nsElem_mk x)
  exact ⟨w', hrun, fun G g1 g2 => ⟨_, r1, hD.put hown.isMap d x g1 g2⟩, r2⟩
end Go.Proofs.YtmienlnhbdbefaaGreatDoor


/- Which nodes have which blobs, by the program. -/
namespace Go.Proofs.YtmienlnhbdbefaaGreatDoor
open Go.RowKit Plain
open Classical
set_option linter.unusedVariables false

namespace Plain
def zeroSv : Array Value := #[.slice none 0 0, .int .i64 0, .map none]
def svC (a : Option Addr) (n c : Nat) (k : Int) (b : Nat) : Array Value := #[.slice a n c, .int .i64 k, .map (some b)]
/-- Block M holds a survey. -/
def SvB (W : World) (M : Nat) (cs : Array Value) : Prop := W.heap[M]? = some (.cells cs 45 (0, 0))
theorem SvB.lt {W : World} {M : Nat} {cs : Array Value} (h : SvB W M cs) : M < W.heap.size := (Array.getElem?_eq_some_iff.1 h).1
theorem SvB.below {W W' : World} {M B : Nat} {cs : Array Value} (h : SvB W M cs) (hb : Below B W W') (hB : M < B) : SvB W' M cs := (hb.block M hB).trans h
theorem SvB.cells {W : World} {M : Nat} {x y z : Value} (h : SvB W M #[x, y, z]) : (W.cell? ⟨M, 0, none⟩ = some x ∧ W.cell? ⟨M, 1, none⟩ = some y ∧ W.cell? ⟨M, 2, none⟩ = some z) ∧ W.frozen? ⟨M, 0, none⟩ = false ∧ W.frozen? ⟨M, 1, none⟩ = false ∧ W.frozen? ⟨M, 2, none⟩ = false :=
  ⟨⟨by rw [cell_of_row W M 0 _ _ _ h]; rfl, by rw [cell_of_row W M 1 _ _ _ h]; rfl, by rw [cell_of_row W M 2 _ _ _ h]; rfl⟩, frozen_of_row W M 0 _ _ h, frozen_of_row W M 1 _ _ h, frozen_of_row W M 2 _ _ h⟩
theorem SvB.put {W : World} {M : Nat} {x y z : Value} (h : SvB W M #[x, y, z]) (x' y' z' : Value) : SvB (((W.setCell ⟨M, 0, none⟩ x').setCell ⟨M, 1, none⟩ y').setCell ⟨M, 2, none⟩ z') M #[x', y', z'] := by
  have h1 := Go.heap_setCell_same W M 0 _ _ x' h
  have h2 := Go.heap_setCell_same _ M 1 _ _ y' h1
  have h3 := Go.heap_setCell_same _ M 2 _ _ z' h2
  exact h3
theorem SvB.bel {W : World} {M B : Nat} (hB : B ≤ M) (x' y' z' : Value) : Below B W (((W.setCell ⟨M, 0, none⟩ x').setCell ⟨M, 1, none⟩ y').setCell ⟨M, 2, none⟩ z') := (((Below.refl _ _).setCell (p := ⟨M, 0, none⟩) hB _).setCell (p := ⟨M, 1, none⟩) hB _).setCell (p := ⟨M, 2, none⟩) hB _
def SvPost (w : World) (a : Option Addr) (n c : Nat) (k : Int) (R : Bool) (F : ByteArray → Nat) (e : Ending) (w' : World) : Prop :=
  Below w.heap.size w w' ∧ ((R = false ∧ e = .returned (.tuple #[.agg zeroSv, .bool false])) ∨ (R = true ∧ ∃ b m, e = .returned (.tuple #[.agg (svC a n c k b), .bool true]) ∧ w.heap.size ≤ b ∧ NsT w' b m F))
theorem SvPost.no {w w' : World} {a : Option Addr} {n c : Nat} {k : Int} {R : Bool} {F : ByteArray → Nat} {e : Ending} (hb : Below w.heap.size w w') (hR : R = false) (he : e = .returned (.tuple #[.agg zeroSv, .bool false])) : SvPost w a n c k R F e w' := ⟨hb, .inl ⟨hR, he⟩⟩
theorem SvPost.yes {w w' : World} {a : Option Addr} {n c : Nat} {k : Int} {R : Bool} {F : ByteArray → Nat} {e : Ending} (b m : Nat) (hb : Below w.heap.size w w') (hR : R = true) (he : e = .returned (.tuple #[.agg (svC a n c k b), .bool true])) (hbb : w.heap.size ≤ b) (hN : NsT w' b m F) : SvPost w a n c k R F e w' := ⟨hb, .inr ⟨hR, b, m, he, hbb, hN⟩⟩
end Plain
theorem infoSv : (Tryz.prog.info? 45).map (·.size) = some 3 := by kernel_rfl

set_option maxRecDepth 10000 in
set_option maxHeartbeats 4000000 in
theorem surveyOf_calls (ad : Option Addr) (nd cd : Nat) (ds : List ByteArray) (a1 : Option Addr) (n1 c1 : Nat) (ns : List Int) (a2 : Option Addr) (n2 c2 : Nat) (hs : List (List ByteArray)) (k : Int) (w : World) (hd : TxtsAt w ad nd ds) (h1 : IntsAt w a1 n1 ns) (h2 : HavAt w a2 n2 hs) :
    Calls Tryz.prog 17 #[.slice ad nd cd, .slice a1 n1 c1, .slice a2 n2 c2, .int .i64 k] w (SvPost w a1 n1 c1 k (rpB ds ns hs k) (fun d => setN (ownL ns hs d))) := by
  obtain ⟨W0, hW0⟩ : ∃ W0, W0 = w.alloc (.cells #[.slice none 0 0, .int .i64 0, .map none] 45) := ⟨_, rfl⟩
  have HB0 := hide (show Below w.heap.size w W0 from by rw [hW0]; exact bel1D _ _)
  have HS0 := hide (show SvB W0 w.heap.size zeroSv from by rw [hW0]; exact heap_alloc_new _ _)
  have HI := hide (rosterOf_calls a1 n1 c1 ns k W0 (h1.below (unhide HB0)))
  have HD := hide (fun (W : World) (hW : Below w.heap.size w W) => readSet_calls ad nd cd ds W (hd.below hW))
  have HW0 := hide hW0.symm
  have HIS := hide (show (Tryz.prog.info? 45).map (·.size) = some zeroSv.size from infoSv)
  have hlen : decide (hs.length = ns.length) = decide (n2 = n1) := by rw [h2.1, h1.len]
  have hbn := h2.2.1
  clear hW0
  by_cases hno : (rosB ns k && setB ds && decide (n2 = n1)) = true
  case neg =>
    have HX := hide (show rpB ds ns hs k = false from by
      unfold rpB
      rw [hlen]
      unfold rosB at hno
      cases q1 : setB ds <;> cases q2 : okIds 0 ns <;> cases q3 : kB k <;> cases q4 : decide (n2 = n1) <;> first | rfl | (rw [q1, q2, q3, q4] at hno; exact absurd rfl hno))
    generalize rosB ns k = b1 at HI hno
    generalize setB ds = b2 at HD hno
    clear hd h1 h2 hlen
    go_enter Tryz.func17, Tryz.ntmps17
    go_wp2_with fail
    rw [unhide HW0]
    refine (unhide HI).mono ?_
    rintro e w1 ⟨rfl, hb1⟩
    obtain ⟨V1, hV1⟩ : ∃ V1, V1 = w1.alloc (.cells #[.slice a1 n1 c1, .int .i64 k] 42) := ⟨_, rfl⟩
    have hbv : Below W0.heap.size W0 V1 := by rw [hV1]; exact belOnD hb1 (bel1D _ _)
    have HB1 := hide (belOnD (unhide HB0) hbv)
    have HS1 := hide ((unhide HS0).below hbv (unhide HS0).lt)
    have HV1 := hide hV1.symm
    clear hb1 hV1 hbv HB0 HI
    go_wp2_with fail
    rw [unhide HV1]
    refine (unhide HD _ (unhide HB1)).mono ?_
    rintro e w2 ⟨mv, rfl, hb2⟩
    have HB2 := hide (belOnD (unhide HB1) hb2)
    have HS2 := hide ((unhide HS1).below hb2 (unhide HS1).lt)
    clear hb2 HB1 HS1 HD
    have hMl := (unhide HS2).lt
    cases b1 with
    | false =>
      obtain ⟨⟨z0, z1, z2⟩, y0, y1, y2⟩ := (unhide HS2).cells
      have HR3 := hide ((unhide HS2).put (.slice none 0 0) (.int .i64 0) (.map none))
      have HB3 := hide ((unhide HB2).trans (SvB.bel (Nat.le_refl _) (.slice none 0 0) (.int .i64 0) (.map none)))
      go_wp2_with fail
      exact bodyPost_ret (v := .tuple #[.agg zeroSv, .bool false]) (results_cell_tmp_row (fn := Tryz.f17) (p := 8) (u := 9) (ty := 45) (by kernel_rfl) _ _ w.heap.size _ _ (0, 0) _ rfl (unhide HR3) Tryz.underlying45 rfl (unhide HIS)) rfl (SvPost.no (unhide HB3) (unhide HX) rfl)
    | true =>
      cases b2 with
      | false =>
        obtain ⟨⟨z0, z1, z2⟩, y0, y1, y2⟩ := (unhide HS2).cells
        have HR3 := hide ((unhide HS2).put (.slice none 0 0) (.int .i64 0) (.map none))
        have HB3 := hide ((unhide HB2).trans (SvB.bel (Nat.le_refl _) (.slice none 0 0) (.int .i64 0) (.map none)))
        go_wp2_with fail
        exact bodyPost_ret (v := .tuple #[.agg zeroSv, .bool false]) (results_cell_tmp_row (fn := Tryz.f17) (p := 8) (u := 9) (ty := 45) (by kernel_rfl) _ _ w.heap.size _ _ (0, 0) _ rfl (unhide HR3) Tryz.underlying45 rfl (unhide HIS)) rfl (SvPost.no (unhide HB3) (unhide HX) rfl)
      | true =>
        have hne : ¬ (n2 : Int) = (n1 : Int) := fun q => hno (by rw [decide_eq_true (show n2 = n1 by omega)]; rfl)
        clear hno
        obtain ⟨⟨z0, z1, z2⟩, y0, y1, y2⟩ := (unhide HS2).cells
        have HR3 := hide ((unhide HS2).put (.slice none 0 0) (.int .i64 0) (.map none))
        have HB3 := hide ((unhide HB2).trans (SvB.bel (Nat.le_refl _) (.slice none 0 0) (.int .i64 0) (.map none)))
        go_wp2_with fail
        exact bodyPost_ret (v := .tuple #[.agg zeroSv, .bool false]) (results_cell_tmp_row (fn := Tryz.f17) (p := 8) (u := 9) (ty := 45) (by kernel_rfl) _ _ w.heap.size _ _ (0, 0) _ rfl (unhide HR3) Tryz.underlying45 rfl (unhide HIS)) rfl (SvPost.no (unhide HB3) (unhide HX) rfl)
  case pos =>
    rw [Bool.and_eq_true, Bool.and_eq_true, decide_eq_true_eq] at hno
    obtain ⟨⟨q1, q2⟩, rfl⟩ := hno
    have hok : okIds 0 ns = true ∧ kB k = true := by unfold rosB at q1; rwa [Bool.and_eq_true] at q1
    obtain ⟨R, hR⟩ : ∃ R, hs.all setB = R := ⟨_, rfl⟩
    have hrp : rpB ds ns hs k = R := by
      unfold rpB
      rw [hlen, q2, hok.1, hok.2, hR, decide_eq_true rfl]
      cases R <;> rfl
    rw [hrp]
    rw [q1] at HI
    rw [q2] at HD
    have HR0 := hide (show (hs.drop 0).all setB = R from hR)
    have HN := hide (fun (W : World) (hW : Below w.heap.size w W) => h1.below hW)
    have HH := hide (fun (W : World) (hW : Below w.heap.size w W) => h2.below hW)
    have HLN := hide h2.1
    have HLM := hide h1.len
    have HRG := hide (fun (p : Nat) (h : p < ns.length) => (show 1 ≤ ns[p] ∧ ns[p] ≤ 50 from by have := (okIds_facts ns 0 (by decide) hok.1).2 ns[p] (by simp); omega))
    have h50 := okIds_len ns 0 (by decide) hok.1
    rw [h1.len] at h50
    have HFIN := hide (show (fun d => ownF ns hs n2 0 d) = fun d => setN (ownL ns hs d) from by
      funext d
      rw [ownF_zero, List.take_of_length_le (by rw [h1.len]; exact Nat.le_refl _), List.take_of_length_le (by rw [h2.1]; exact Nat.le_refl _)])
    have HF0 := hide (show (fun d => ownF ns hs 0 0 d) = fun _ => 0 from by
      funext d
      rw [ownF_zero]
      simp [ownL, setN, setF])
    clear hd h1 h2 hlen q1 q2 hok hR hrp
    go_enter Tryz.func17, Tryz.ntmps17
    go_wp2_with fail
    rw [unhide HW0]
    refine (unhide HI).mono ?_
    rintro e w1 ⟨rfl, hb1⟩
    obtain ⟨V1, hV1⟩ : ∃ V1, V1 = w1.alloc (.cells #[.slice a1 n2 c1, .int .i64 k] 42) := ⟨_, rfl⟩
    have hbv : Below W0.heap.size W0 V1 := by rw [hV1]; exact belOnD hb1 (bel1D _ _)
    have HB1 := hide (belOnD (unhide HB0) hbv)
    have HS1 := hide ((unhide HS0).below hbv (unhide HS0).lt)
    have hl1 : w1.heap.size < V1.heap.size := by rw [hV1]; simp
    have r0 : V1.cell? ⟨w1.heap.size, 0, none⟩ = some (.slice a1 n2 c1) := by rw [hV1]; simp [go_sem]
    have r1 : V1.cell? ⟨w1.heap.size, 1, none⟩ = some (.int .i64 k) := by rw [hV1]; simp [go_sem]
    have HV1 := hide hV1.symm
    clear hb1 hV1 hbv HB0 HI HS0 HW0
    go_wp2_with fail
    rw [unhide HV1]
    refine (unhide HD _ (unhide HB1)).mono ?_
    rintro e w2 ⟨mv, rfl, hb2⟩
    have HB2 := hide (belOnD (unhide HB1) hb2)
    have HS2 := hide ((unhide HS1).below hb2 (unhide HS1).lt)
    have hl2 : w1.heap.size < w2.heap.size := Nat.lt_of_lt_of_le hl1 hb2.size
    have s0 := bclW hb2 hl1 r0
    have s1 := bclW hb2 hl1 r1
    have hMl := (unhide HS2).lt
    have HQ := hide (fun (W : World) (hW : Below w2.heap.size w2 W) => And.intro (bclW hW hl2 s0) (bclW hW hl2 s1))
    have HSW := hide (fun (W : World) (hW : Below w2.heap.size w2 W) => (unhide HS2).below hW hMl)
    have hmk := make_ns w2
    obtain ⟨W3, hW3⟩ : ∃ W3, W3 = w2.alloc (.map #[] 0) := ⟨_, rfl⟩
    have HT3 := hide (show NsT W3 w2.heap.size 0 (fun d => ownF ns hs 0 0 d) from by rw [hW3, unhide HF0]; exact ns_made w2)
    have HB3 := hide (show Below w2.heap.size w2 W3 from by rw [hW3]; exact bel1D _ _)
    rw [← hW3] at hmk
    have hbb := (unhide HB2).size
    clear hb2 HB1 HS1 HD r0 r1 s0 s1 HS2 hW3 HF0 HV1 hl1
    go_wp2_with fail
    clear hmk
    go_loopw [49] (fun s49 wr => ∃ (p m : Nat), s49 = .int .i64 p ∧ p ≤ n2 ∧ m ≤ 200 * p ∧ Hid ((hs.drop p).all setB = R) ∧ Hid (NsT wr w2.heap.size m (fun d => ownF ns hs p 0 d)) ∧ Hid (Below w2.heap.size w2 wr)) (fun s49 _ => n2 - (intOf s49).toNat)
    case atStart => exact ⟨0, 0, rfl, by omega, by omega, HR0, HT3, HB3⟩
    case round =>
      clear HR0 HT3 HB3
      obtain ⟨p, m, rfl, hp, hm, HR, HT, HB⟩ := hrel
      have HBW := hide (belOnD (unhide HB2) (unhide HB))
      by_cases hpn : p < n2
      · have hpl : p < hs.length := by rw [unhide HLN]; exact hpn
        have hpm : p < ns.length := by rw [unhide HLM]; exact hpn
        obtain ⟨g, ai, ci, e1, l1, p00, ht⟩ := (unhide HH w (Below.refl _ _)).2.2 p hpl
        have p0 := bclW (unhide HBW) l1 p00
        have HRS := hide (readSet_calls ai hs[p].length ci hs[p] wr (ht.below (unhide HBW)))
        clear p00
        have HST := hide (show (setB hs[p] && (hs.drop (p + 1)).all setB) = R from by rw [← unhide HR, List.drop_eq_getElem_cons hpl, List.all_cons])
        have i0 : (0 : Int) ≤ (p : Int) := by omega
        have i1 : (p : Int) < (n2 : Int) := by omega
        subst e1
        cases hb : setB hs[p] with
        | false =>
          rw [hb] at HRS
          have HX := hide (show R = false from by rw [← unhide HST, hb]; rfl)
          generalize hs[p].length = L at p0 HRS
          clear hb HST HR ht HN HRG
          go_wp2_with fail
          refine (unhide HRS).mono ?_
          rintro e w4 ⟨mv4, rfl, hb4⟩
          have HB4 := hide ((unhide HB).trans (hb4.mono (unhide HB).size))
          have HS4 := hide (unhide HSW _ (unhide HB4))
          have hz4 := (unhide HB4).size
          clear hb4
          obtain ⟨⟨z0, z1, z2⟩, y0, y1, y2⟩ := (unhide HS4).cells
          have HR5 := hide ((unhide HS4).put (.slice none 0 0) (.int .i64 0) (.map none))
          have HB5 := hide ((belOnD (unhide HB2) (unhide HB4)).trans (SvB.bel (Nat.le_refl _) (.slice none 0 0) (.int .i64 0) (.map none)))
          go_wp2_with fail
          exact bodyPost_ret (v := .tuple #[.agg zeroSv, .bool false]) (results_cell_tmp_row (fn := Tryz.f17) (p := 8) (u := 9) (ty := 45) (by kernel_rfl) _ _ w.heap.size _ _ (0, 0) _ rfl (unhide HR5) Tryz.underlying45 rfl (unhide HIS)) rfl (SvPost.no (unhide HB5) (unhide HX) rfl)
        | true =>
          rw [hb] at HRS
          have HX := hide (show (hs.drop (p + 1)).all setB = R from by rw [← unhide HST, hb]; rfl)
          have h200 := (setB_all hb).1
          have HALL := hide (setB_all hb).2
          have HTX := hide (fun (W : World) (hW : Below w2.heap.size w2 W) => ht.row.below (belOnD (unhide HB2) hW))
          have hx := unhide HRG p hpm
          have HSTP := hide (fun (j : Nat) (hj : j < hs[p].length) (d : ByteArray) => ownF_step ns hs p j hpm hpl hj d)
          have HNX := hide (show (fun d => ownF ns hs p hs[p].length d) = fun d => ownF ns hs (p + 1) 0 d from funext fun d => ownF_next ns hs p hpm hpl hx d)
          have HLT := hide (fun (j : Nat) (d : ByteArray) => ownF_lt ns hs p j hpm hx d)
          have HND := hide (fun (W : World) (hW : Below w2.heap.size w2 W) => (unhide HN W (belOnD (unhide HB2) hW)).row.ix p hpm)
          obtain ⟨X, hX⟩ : ∃ X : Nat, ns[p] = (X : Int) := ⟨ns[p].toNat, by omega⟩
          rw [hX] at hx HSTP HND
          rw [Int.toNat_natCast] at HSTP
          obtain ⟨gn, en, -, -, -⟩ := unhide HND wr (unhide HB)
          have HNC := hide (fun (W : World) (hW : Below w2.heap.size w2 W) => (show W.cell? ⟨gn, p, none⟩ = some (.int .i64 X) from by
            obtain ⟨g', e', -, c', -⟩ := unhide HND W hW
            rw [en] at e'
            cases e'
            exact c'))
          subst en
          have hX63 : X ≤ 63 := by omega
          have HPW := hide (show 2 ^ X < 18446744073709551616 from by have : 2 ^ X ≤ 2 ^ 63 := Nat.pow_le_pow_right (by decide) hX63; omega)
          generalize hs[p] = xs at p0 HRS h200 HALL HTX HSTP HNX
          obtain ⟨L, hL⟩ : ∃ L, xs.length = L := ⟨_, rfl⟩
          rw [hL] at p0 HRS h200 HNX
          have HXL := hide hL
          have hwz := (unhide HB).size
          clear hb HST HR ht HN HRG hL HND hX hpl hpm
          go_wp2_with fail
          refine (unhide HRS).mono ?_
          rintro e w4 ⟨mv4, rfl, hb4⟩
          have HB4 := hide ((unhide HB).trans (hb4.mono hwz))
          have HT4 := hide ((unhide HT).keep hb4)
          have hz4 := hb4.size
          clear hb4 HT HRS HBW HB p0
          go_wp2_with fail
          go_loopw [64] (fun s64 wq => ∃ (j q : Nat), s64 = .int .i64 j ∧ j ≤ L ∧ q ≤ m + j ∧ Hid (NsT wq w2.heap.size q (fun d => ownF ns hs p j d)) ∧ Hid (Below w2.heap.size w2 wq)) (fun s64 _ => L - (intOf s64).toNat)
          case atStart => exact ⟨0, m, rfl, by omega, by omega, HT4, HB4⟩
          case round =>
            clear HT4 HB4
            obtain ⟨j, q, rfl, hj, hq, HTj, HBj⟩ := hrel
            by_cases hjL : j < L
            · have hjl : j < xs.length := by rw [unhide HXL]; exact hjL
              obtain ⟨gx, ex, lx, px, -⟩ := (unhide HTX wr (unhide HBj)).str j hjl
              have hd71 := digB_len71 (unhide HALL xs[j] (by simp))
              have HST := hide (fun (d : ByteArray) => unhide HSTP j hjl d)
              generalize xs[j] = d at px hd71 HST
              have hlk := (NsT.of_block (W' := wr.drew) (unhide HTj) rfl).look (d := d) (by omega)
              have hFl := unhide HLT j d
              obtain ⟨F, hF⟩ : ∃ F, ownF ns hs p j d = F := ⟨_, rfl⟩
              rw [hF] at hlk hFl
              have hor : bits .or .u64 (F : Int) ((2 ^ X : Nat) : Int) = ((F ||| 2 ^ X : Nat) : Int) := u64_or_nat _ _ (by omega) (unhide HPW)
              obtain ⟨w5, hup, hN5, hg5⟩ := (NsT.of_block (W' := wr.drew) (unhide HTj) rfl).upd (by omega) (d := d) (by omega) (F ||| 2 ^ X)
              have HT5 := hide (hN5 (fun y => ownF ns hs p (j + 1) y) (by show ownF ns hs p (j + 1) d = _; rw [unhide HST d, if_pos rfl, hF]) (fun y hy => by show ownF ns hs p (j + 1) y = ownF ns hs p j y; rw [unhide HST y, if_neg hy]))
              have HB5 := hide ((belDrew (unhide HBj)).grown hg5 (unhide HBj).size (fun i hi => by cases hi; exact Nat.le_refl _))
              generalize F ||| 2 ^ X = F2 at hor hup
              have HON := hide (fun W => only_calls X W hX63)
              generalize 2 ^ X = PX at hor HON HPW
              have pn := unhide HNC wr (unhide HBj)
              subst ex
              have j0 : (0 : Int) ≤ (j : Int) := by omega
              have j1 : (j : Int) < (L : Int) := by omega
              clear hN5 hg5 HST HSTP HALL HTj hF HLT HNC
              go_wp2_with fail
              go_region_with (go_at_call 31; refine (unhide HON _).mono ?_; rintro e w3 ⟨rfl, rfl⟩)
              all_goals
                go_wp2_with fail
                exact ⟨⟨j + 1, q + 1, by go_num, by omega, by omega, HT5, HB5⟩, by simp [intOf]; omega⟩
            · obtain rfl : j = L := by omega
              have HT5 := hide (show NsT wr w2.heap.size q (fun d => ownF ns hs (p + 1) 0 d) from by rw [← unhide HNX]; exact unhide HTj)
              clear HTj HNX HSTP HALL HLT HNC HTX
              go_wp2_with fail
              go_roundw
              case rel => exact ⟨p + 1, q, by go_num, by omega, by omega, HX, HT5, HBj⟩
              case measure => simp [intOf]; omega
      · obtain rfl : p = n2 := by omega
        have hRt : R = true := by
          have := unhide HR
          rw [List.drop_of_length_le (by rw [unhide HLN]; exact Nat.le_refl _)] at this
          exact this.symm
        have HRT := hide hRt
        obtain ⟨q0, q1⟩ := unhide HQ wr (unhide HB)
        obtain ⟨⟨z0, z1, z2⟩, y0, y1, y2⟩ := (unhide HSW wr (unhide HB)).cells
        have HR5 := hide ((unhide HSW wr (unhide HB)).put (.slice a1 p c1) (.int .i64 k) (.map (some w2.heap.size)))
        have HB5 := hide ((belOnD (unhide HB2) (unhide HB)).trans (SvB.bel (M := w.heap.size) (Nat.le_refl _) (.slice a1 p c1) (.int .i64 k) (.map (some w2.heap.size))))
        have HT5 := hide (show NsT (((wr.setCell ⟨w.heap.size, 0, none⟩ (.slice a1 p c1)).setCell ⟨w.heap.size, 1, none⟩ (.int .i64 k)).setCell ⟨w.heap.size, 2, none⟩ (.map (some w2.heap.size))) w2.heap.size m (fun d => setN (ownL ns hs d)) from by
          rw [← unhide HFIN]
          refine NsT.of_block (unhide HT) ?_
          have hne : ¬ w2.heap.size = w.heap.size := by omega
          rw [Go.heap_setCell_other _ _ _ _ hne, Go.heap_setCell_other _ _ _ _ hne, Go.heap_setCell_other _ _ _ _ hne])
        have HIS2 := hide (show (Tryz.prog.info? 45).map (·.size) = some (svC a1 p c1 k w2.heap.size).size from infoSv)
        clear hRt HR HT HN HRG HFIN
        go_wp2_with fail
        exact bodyPost_ret (v := .tuple #[.agg (svC a1 p c1 k w2.heap.size), .bool true]) (results_cell_tmp_row (fn := Tryz.f17) (p := 8) (u := 9) (ty := 45) (by kernel_rfl) _ _ w.heap.size _ _ (0, 0) _ rfl (unhide HR5) Tryz.underlying45 rfl (unhide HIS2)) rfl (SvPost.yes _ _ (unhide HB5) (unhide HRT) rfl hbb (unhide HT5))
end Go.Proofs.YtmienlnhbdbefaaGreatDoor


/- Copies to nodes, and the first of the ranks, by the program. -/
namespace Go.Proofs.YtmienlnhbdbefaaGreatDoor
open Go.RowKit Plain
set_option linter.unusedVariables false



end Go.Proofs.YtmienlnhbdbefaaGreatDoor

/- The plan, by the program. -/
namespace Go.Proofs.YtmienlnhbdbefaaGreatDoor
open Go.RowKit Plain
open Classical
set_option linter.unusedVariables false

/-- A whole row is appended, inside a region that draws. -/
theorem stepGR {α : Type} {e : Elem α} {ops : Array Oper} {o : Oper} {a : Act} {K : Act → World → Prop} {Q : Exit → Act → World → Prop} {F : Prop} (hgd : o.guard = none) (s x : Operand)
    (ho : o.op = .call { callee := .builtin .append, args := #[s, x], argTypes := #[e.S, e.S] })
    {w : World} {B : Nat} {v : Value} {xs ys : List α} (hown : OwnR e w B v xs) (hs : a.eval s = v) (ad : Option Addr) (m c : Nat) (hx : a.eval x = .slice ad m c) (hy : ys.length = m) (hr : RowAt e w ad ys) (had : AdG ad c)
    (hlen : xs.length + m < 100000000) (hB : B ≤ w.heap.size)
    (h : ∀ v' w', OwnR e w' B v' (xs ++ ys) → Below B w w' → w.grownBy w' v.ownBlock → K (a.put o.dst v') w') :
    if Region.wanted o (yielded ops a.tmps) = true then Oper.wp Tryz.prog o a w K Q else F := by
  rw [if_pos (by simp [Region.wanted, hgd])]
  obtain ⟨i0, hi, hz0, hz1, hz2⟩ := info_parts e.hinfo
  subst hy
  rcases had with ⟨rfl, rfl⟩ | ⟨g, rfl⟩
  · have hys : ys = [] := by
      cases ys with
      | nil => rfl
      | cons y l => obtain ⟨g, e1, _⟩ := hr 0 (by simp); simp at e1
    subst hys
    have hrun := run_append_owned_none (P := Tryz.prog) w B e.S o.type e.E i0 e.n e.hund hi v xs.length (xs.flatMap e.enc) hown
    have hx2 : a.eval x = .slice none 0 0 := hx
    unfold Oper.wp execOp
    simp only [ho, resolve, invoke, builtin, Sem.run_bind, Sem.run_pure, Result.andThen_ok, List.map_toArray, List.map_cons, List.map_nil, hs, hx2, hrun]
    exact h v w (by rw [List.append_nil]; exact hown) (Below.refl _ _) ⟨rfl, rfl, rfl, Nat.le_refl _, fun _ _ _ => rfl⟩
  · have hby := e.hb
    refine wp_append_own _ s x e.S ho B e.E i0 e.zero e.n e.bytes e.hund hi hz0 hz1 hz2 e.hz e.hn v xs.length (xs.flatMap e.enc) hs hown
      ⟨g, 0, none⟩ ys.length c (ys.flatMap e.enc) hx (flat_len e.enc e.n e.hlen ys) ?_ ?_ (by unfold maxLen; omega) ?_ hB ?_
    · intro j u hj
      have hjl : j < ys.length * e.n := by
        have := (List.getElem?_eq_some_iff.1 hj).1
        rw [flat_len e.enc e.n e.hlen] at this
        exact this
      have hn := e.hn
      have hq : j / e.n < ys.length := Nat.div_lt_of_lt_mul (by rw [Nat.mul_comm]; exact hjl)
      have hm : j % e.n < e.n := Nat.mod_lt _ hn
      have hd : j / e.n * e.n + j % e.n = j := by rw [Nat.mul_comm]; exact Nat.div_add_mod j e.n
      obtain ⟨g', e1, hl, hc⟩ := hr (j / e.n) hq
      cases e1
      have h1 := (hc (j % e.n) hm).1
      rw [hd] at h1
      have h2 := flat_get e.enc e.n e.hlen ys (j / e.n) (j % e.n) hq hm
      rw [hd] at h2
      rw [show (⟨g, 0, none⟩ : Addr).add j = ⟨g, j, none⟩ from by unfold Addr.add; split <;> simp_all, h1, ← h2]
      exact hj
    · intro u hu
      obtain ⟨y, _, hy⟩ := List.mem_flatMap.1 hu
      exact e.hone y u hy
    · exact Nat.le_trans (Nat.mul_le_mul_left _ hby) (by omega)
    · intro v' w' h1 h2 _
      refine h v' w' ?_ (own_below hown h2 hB) h2
      unfold OwnR
      rw [List.flatMap_append, List.length_append]
      exact h1

theorem OwnR.besideG {α β : Type} {e : Elem α} {e' : Elem β} {W w' : World} {B B' : Nat} {v v' : Value} {xs : List α} {ys : List β} (h : OwnR e W B v xs) (ho : OwnR e' W B' v' ys) (hne : e.E ≠ e'.E) (hg : W.grownBy w' v'.ownBlock) : OwnR e w' B v xs := by
  refine World.ownsRow.kept h hg ?_
  rcases h.2 with ⟨q, _⟩ | ⟨g1, cap, cur, q, _, h3, _⟩
  · exact .inl (by rw [q]; rfl)
  · rcases ho.2 with ⟨q', _⟩ | ⟨g2, cap', cur', q', _, h3', _⟩
    · subst q'; subst q; exact .inr (by simp [Value.ownBlock])
    · subst q
      subst q'
      refine .inr ?_
      intro hh
      have e1 : g1 = g2 := by simpa [Value.ownBlock] using hh
      subst e1
      rw [h3] at h3'
      simp at h3'
      exact hne h3'.2



end Go.Proofs.YtmienlnhbdbefaaGreatDoor

/- What is spare, by the program. -/
namespace Go.Proofs.YtmienlnhbdbefaaGreatDoor
open Go.RowKit Plain
open Classical
set_option linter.unusedVariables false

namespace Plain
/-- Who has a digest of l that all holders have, and is none of them. -/
noncomputable def spF (ns : List Int) (hs : List (List ByteArray)) (K : Nat) (l : List ByteArray) (d : ByteArray) : List Int := if d ∈ l ∧ lckL (wt d) ns K (ownL ns hs d) = [] then (ownL ns hs d).filter fun x => !decide (x ∈ hld (wt d) ns K) else []
theorem spF_nil (ns : List Int) (hs : List (List ByteArray)) (K : Nat) (d : ByteArray) : spF ns hs K [] d = [] := by simp [spF]
theorem spF_same (ns : List Int) (hs : List (List ByteArray)) (K : Nat) (l : List ByteArray) (d y : ByteArray) (h : y ≠ d ∨ ¬ lckL (wt d) ns K (ownL ns hs d) = []) : spF ns hs K (l ++ [d]) y = spF ns hs K l y := by
  unfold spF
  by_cases e : y = d
  · subst e
    have h2 := h.resolve_left (fun q => q rfl)
    rw [if_neg (fun q => h2 q.2), if_neg (fun q => h2 q.2)]
  · have : y ∈ l ++ [d] ↔ y ∈ l := by rw [List.mem_append, List.mem_singleton]; exact ⟨fun q => q.resolve_right e, .inl⟩
    by_cases e2 : y ∈ l
    · by_cases e3 : lckL (wt y) ns K (ownL ns hs y) = []
      · rw [if_pos ⟨this.2 e2, e3⟩, if_pos ⟨e2, e3⟩]
      · rw [if_neg (fun q => e3 q.2), if_neg (fun q => e3 q.2)]
    · rw [if_neg (fun q => e2 (this.1 q.1)), if_neg (fun q => e2 q.1)]
theorem spF_new (ns : List Int) (hs : List (List ByteArray)) (K : Nat) (l : List ByteArray) (d : ByteArray) (h : lckL (wt d) ns K (ownL ns hs d) = []) : spF ns hs K (l ++ [d]) d = (ownL ns hs d).filter fun x => !decide (x ∈ hld (wt d) ns K) := by
  unfold spF
  rw [if_pos ⟨by simp, h⟩]
theorem ownL_at (d : ByteArray) : ∀ (ns : List Int) (hs : List (List ByteArray)) (p : Nat) (h1 : p < ns.length) (h2 : p < hs.length), d ∈ hs[p] → ns[p] ∈ ownL ns hs d
  | n :: ns, h :: hs, 0, _, _, hd => by rw [ownL_cons, if_pos (by simpa using hd)]; simp
  | n :: ns, h :: hs, p + 1, h1, h2, hd => by
    rw [ownL_cons]
    exact List.mem_append.2 (.inr (ownL_at d ns hs p (by simpa using h1) (by simpa using h2) (by simpa using hd)))
theorem lckL_all (f : Int → Int) (ns : List Int) (K : Nat) (own : List Int) : ((hld f ns K).all fun y => decide (y ∈ own)) = decide (lckL f ns K own = []) := by
  unfold lckL
  rw [Bool.eq_iff_iff, List.all_eq_true, decide_eq_true_eq, List.filter_eq_nil_iff]
  constructor
  · intro h x hx
    have := h x hx
    simp at this
    simp [this]
  · intro h x hx
    have := h x hx
    simpa using this
theorem spB_in (ds : List ByteArray) (ns : List Int) (hs : List (List ByteArray)) (K p : Nat) (h1 : p < ns.length) (h2 : p < hs.length) (d : ByteArray) (hd : d ∈ hs[p]) : spB ds ns hs K ns[p] d = decide (ns[p] ∈ spF ns hs K ds d) := by
  have ho := ownL_at d ns hs p h1 h2 hd
  unfold spB spF
  rw [lckL_all]
  by_cases e1 : d ∈ ds
  · by_cases e2 : lckL (wt d) ns K (ownL ns hs d) = []
    · rw [if_pos ⟨e1, e2⟩, decide_eq_true e1, decide_eq_true e2, Bool.eq_iff_iff]
      simp [List.mem_filter, ho]
    · rw [if_neg (fun q => e2 q.2), decide_eq_false e2]; simp
  · rw [if_neg (fun q => e1 q.1), decide_eq_false e1]; simp
theorem spF_ok (ns : List Int) (hs : List (List ByteArray)) (K : Nat) (l : List ByteArray) (d : ByteArray) (h : okIds 0 ns = true) : okIds 0 (spF ns hs K l d) = true := by
  unfold spF
  split
  · exact okIds_filter _ _ 0 (ownL_ok d ns hs h)
  · rfl
end Plain

set_option maxRecDepth 10000 in
set_option maxHeartbeats 4000000 in
theorem spareAt_calls (a1 : Option Addr) (n1 c1 : Nat) (ns : List Int) (hs : List (List ByteArray)) (K b mN : Nat) (ad : Option Addr) (nd cd : Nat) (ds : List ByteArray) (w : World) (hd : TxtsAt w ad nd ds) (h1 : IntsAt w a1 n1 ns) (hN : NsT w b mN (fun d => setN (ownL ns hs d))) (hok : okIds 0 ns = true) (hset : setB ds = true) (hk1 : 1 ≤ K) (hk7 : K ≤ 7) (hK : KAt w) :
    Calls Tryz.prog 18 #[.agg #[.slice a1 n1 c1, .int .i64 K, .map (some b)], .slice ad nd cd] w fun e w' => ∃ b2 m2, e = .returned (.map (some b2)) ∧ NsT w' b2 m2 (fun d => setN (spF ns hs K ds d)) ∧ Below w.heap.size w w' := by
  have h0 : 2 < w.heap.size := lt_of_cell (hK 0 (by omega))
  have hall := setB_all hset
  obtain ⟨W1, hW1⟩ : ∃ W1, W1 = w.alloc (.cells #[.slice a1 n1 c1, .int .i64 K, .map (some b)] 45) := ⟨_, rfl⟩
  have HB1 := hide (show Below w.heap.size w W1 from by rw [hW1]; exact bel1D _ _)
  have l1 : w.heap.size < W1.heap.size := by rw [hW1]; simp
  have r0 : W1.cell? ⟨w.heap.size, 0, none⟩ = some (.slice a1 n1 c1) := by rw [hW1]; simp [go_sem]
  have r1 : W1.cell? ⟨w.heap.size, 1, none⟩ = some (.int .i64 K) := by rw [hW1]; simp [go_sem]
  have r2 : W1.cell? ⟨w.heap.size, 2, none⟩ = some (.map (some b)) := by rw [hW1]; simp [go_sem]
  have HQ := hide (fun (W : World) (hW : Below W1.heap.size W1 W) => And.intro (bclW hW l1 r0) (And.intro (bclW hW l1 r1) (bclW hW l1 r2)))
  have HN1 := hide (hN.keep (unhide HB1))
  have HNK := hide (fun (W : World) (hW : Below W1.heap.size W1 W) => (unhide HN1).keep hW)
  have hmk := make_ns W1
  obtain ⟨W2, hW2⟩ : ∃ W2, W2 = W1.alloc (.map #[] 0) := ⟨_, rfl⟩
  have HB2 := hide (show Below W1.heap.size W1 W2 from by rw [hW2]; exact bel1D _ _)
  have HT2 := hide (show NsT W2 W1.heap.size 0 (fun d => setN (spF ns hs K (ds.take 0) d)) from by
    rw [hW2, show (fun d => setN (spF ns hs K (ds.take 0) d)) = fun _ => 0 from funext fun d => by rw [List.take_zero, spF_nil]; rfl]
    exact ns_made W1)
  rw [← hW2] at hmk
  have hmk0 : (Instr.makeMap 43 none).run Tryz.prog (w.alloc (.cells #[.slice a1 n1 c1, .int .i64 K, .map (some b)] 45)) = .ok (.map (some W1.heap.size)) W2 := by rw [← hW1]; exact hmk
  have HS1 := hide (fun (W : World) (hW : Below w.heap.size w W) (d : ByteArray) (hdd : d ∈ ds) => (show Calls Tryz.prog 22 #[.agg #[.slice a1 n1 c1, .int .i64 K], .string d] W fun e w' => ∃ v, e = .returned (.agg #[v, .int .u64 (setN (hld (wt d) ns K) : Nat)]) ∧ Below W.heap.size W w' from by
    refine (seatingOf_calls a1 n1 c1 ns K d W (h1.below hW) hok (digB_len71 (hall.2 d hdd)) (hK.below hW h0) hk1 hk7).mono ?_
    rintro e w' ⟨v, rfl, -, hb⟩
    exact ⟨v, by rw [hld_set], hb⟩))
  have HA1 := hide (fun (d : ByteArray) => (show bits .andNot .u64 ((setN (hld (wt d) ns K) : Nat) : Int) ((setN (ownL ns hs d) : Nat) : Int) = ((setN (lckL (wt d) ns K (ownL ns hs d)) : Nat) : Int) from by
    have e1 := setN_lt (hld (wt d) ns K)
    have e2 := setN_lt (ownL ns hs d)
    rw [u64_andNot_nat _ _ (by omega) (by omega), andn_set]
    rfl))
  have HA2 := hide (fun (d : ByteArray) => (show bits .andNot .u64 ((setN (ownL ns hs d) : Nat) : Int) ((setN (hld (wt d) ns K) : Nat) : Int) = ((setN ((ownL ns hs d).filter fun x => !decide (x ∈ hld (wt d) ns K)) : Nat) : Int) from by
    have e1 := setN_lt (hld (wt d) ns K)
    have e2 := setN_lt (ownL ns hs d)
    rw [u64_andNot_nat _ _ (by omega) (by omega), andn_set]))
  have HZ := hide (fun (d : ByteArray) => (show setN (lckL (wt d) ns K (ownL ns hs d)) = 0 ↔ lckL (wt d) ns K (ownL ns hs d) = [] from by
    rw [set_zero _ (lckL_ok _ _ _ _ hok)]
    exact List.length_eq_zero_iff))
  have HDS := hide (fun (W : World) (hW : Below w.heap.size w W) => hd.below hW)
  have HD71 := hide (fun (d : ByteArray) (hdd : d ∈ ds) => digB_len71 (hall.2 d hdd))
  have HSM := hide (fun (l : List ByteArray) (d y : ByteArray) (h : y ≠ d ∨ ¬ lckL (wt d) ns K (ownL ns hs d) = []) => spF_same ns hs K l d y h)
  have HNW := hide (fun (l : List ByteArray) (d : ByteArray) (h : lckL (wt d) ns K (ownL ns hs d) = []) => spF_new ns hs K l d h)
  have HDN := hide hd.len
  have hd200 := hall.1
  rw [hd.len] at hd200
  have hz1 := (unhide HB1).size
  clear hd h1 hN hok hset hK hall hW1 hW2 r0 r1 r2 HN1 hmk
  go_enter Tryz.func18, Tryz.ntmps18
  go_wp2_with fail
  clear hmk0
  go_loopw [13] (fun s13 wr => ∃ (j q : Nat), s13 = .int .i64 j ∧ j ≤ nd ∧ q ≤ j ∧ Hid (NsT wr W1.heap.size q (fun d => setN (spF ns hs K (ds.take j) d))) ∧ Hid (Below W1.heap.size W1 wr)) (fun s13 _ => nd - (intOf s13).toNat)
  case atStart => exact ⟨0, 0, rfl, by omega, by omega, HT2, HB2⟩
  case round =>
    clear HT2 HB2
    obtain ⟨j, q, rfl, hj, hq, HT, HB⟩ := hrel
    have HBW := hide (belOnD (unhide HB1) (unhide HB))
    by_cases hjn : j < nd
    · have hjl : j < ds.length := by rw [unhide HDN]; exact hjn
      obtain ⟨gd, e1, l2, p0, -⟩ := (unhide HDS wr (unhide HBW)).row.str j hjl
      have HTK := hide (show ds.take (j + 1) = ds.take j ++ [ds[j]] from List.take_succ_eq_append_getElem hjl)
      have hd71 := unhide HD71 ds[j] (by simp)
      have HG1 := hide (unhide HS1 wr.drew (belDrew (unhide HBW)) ds[j] (by simp))
      generalize ds[j] = d at p0 HTK hd71 HG1
      have hA1 := unhide HA1 d
      have hA2 := unhide HA2 d
      have hZ := unhide HZ d
      have HE1 := hide (fun (h : lckL (wt d) ns K (ownL ns hs d) = []) => (show setN (spF ns hs K (ds.take (j + 1)) d) = setN ((ownL ns hs d).filter fun x => !decide (x ∈ hld (wt d) ns K)) from by rw [unhide HTK, unhide HNW _ d h]))
      have HE2 := hide (fun (y : ByteArray) (h : y ≠ d ∨ ¬ lckL (wt d) ns K (ownL ns hs d) = []) => (show setN (spF ns hs K (ds.take (j + 1)) y) = setN (spF ns hs K (ds.take j) y) from by rw [unhide HTK, unhide HSM _ d y h]))
      have hz := (unhide HB).size
      have LK := fun (W : World) (hW : Below wr.heap.size wr W) => (unhide HNK W ((unhide HB).trans (hW.mono hz))).look (d := d) (by omega)
      have U0 := fun (W : World) (hW : Below wr.heap.size wr W) => (unhide HQ W ((unhide HB).trans (hW.mono hz))).1
      have U1 := fun (W : World) (hW : Below wr.heap.size wr W) => (unhide HQ W ((unhide HB).trans (hW.mono hz))).2.1
      have U2 := fun (W : World) (hW : Below wr.heap.size wr W) => (unhide HQ W ((unhide HB).trans (hW.mono hz))).2.2
      generalize setN ((ownL ns hs d).filter fun x => !decide (x ∈ hld (wt d) ns K)) = F2 at hA2 HE1
      generalize lckL (wt d) ns K (ownL ns hs d) = lk at hA1 hZ HE1 HE2
      generalize setN lk = Sc at hA1 hZ
      generalize setN (ownL ns hs d) = F at hA1 hA2 LK
      generalize setN (hld (wt d) ns K) = So at hA1 hA2 HG1
      have HBR := hide (Below.refl wr.heap.size wr)
      have hfd := fun v => field_seat v So
      have i0 : (0 : Int) ≤ (j : Int) := by omega
      have i1 : (j : Int) < (nd : Int) := by omega
      have HA := hide (And.intro hA1 hA2)
      have HZZ := hide hZ
      subst e1
      clear hA1 hA2 hZ HBW HTK
      go_wp2_with fail
      go_region_held3 (fun w' => Below wr.heap.size wr w') (first | exact belDrewW (unhide HBR) | exact (by assumption)) (first
        | (go_at_call 22; refine (unhide HG1).mono ?_; rintro e w7 ⟨v7, rfl, hb7⟩; have hS7 : Below wr.heap.size wr w7 := belOnD (belDrew (unhide HBR)) hb7))
      all_goals
        have HB7 := hide (show Below wr.heap.size wr w7 from belOnD (belDrew (unhide HBR)) hb7)
        have HT7 := hide ((unhide HT).keep (unhide HB7))
        have HB8 := hide ((unhide HB).trans ((unhide HB7).mono hz))
        obtain ⟨hA1, hA2⟩ := unhide HA
        clear hb7 LK U0 U1 U2 hfd HG1 HT HB p0 HA
        by_cases hS0 : Sc = 0
        · have hlk := (unhide HZZ).1 hS0
          subst hS0
          obtain ⟨w8, hup, hN8, hg8⟩ := (unhide HT7).upd (by omega) (d := d) (by omega) F2
          have HT8 := hide (hN8 (fun y => setN (spF ns hs K (ds.take (j + 1)) y)) (unhide HE1 hlk) (fun y hy => unhide HE2 y (.inl hy)))
          have HB9 := hide ((unhide HB8).grown hg8 (unhide HB8).size (fun i hi => by cases hi; exact Nat.le_refl _))
          clear hN8 hg8 HT7 hlk
          go_wp2_with fail
          go_roundw
          case rel => exact ⟨j + 1, q + 1, by go_num, by omega, by omega, HT8, HB9⟩
          case measure => simp [intOf]; omega
        · have hlk : ¬ lk = [] := fun h => hS0 ((unhide HZZ).2 h)
          have hne : ¬ (Sc : Int) = 0 := by omega
          have HT8 := hide (show NsT w7 W1.heap.size q (fun y => setN (spF ns hs K (ds.take (j + 1)) y)) from by
            rw [show (fun y => setN (spF ns hs K (ds.take (j + 1)) y)) = fun y => setN (spF ns hs K (ds.take j) y) from funext fun y => unhide HE2 y (.inr hlk)]
            exact unhide HT7)
          clear HT7 hlk
          go_wp2_with fail
          go_roundw
          case rel => exact ⟨j + 1, q, by go_num, by omega, by omega, HT8, HB8⟩
          case measure => simp [intOf]; omega
    · obtain rfl : j = nd := by omega
      rw [List.take_of_length_le (by rw [unhide HDN]; exact Nat.le_refl _)] at HT
      go_wp2_with fail
      go_ret
      exact ⟨_, _, rfl, unhide HT, unhide HBW⟩

set_option maxRecDepth 10000 in
set_option maxHeartbeats 8000000 in
theorem impl_Spare (ad : Option Addr) (nd cd : Nat) (ds : List ByteArray) (a1 : Option Addr) (n1 c1 : Nat) (ns : List Int) (a2 : Option Addr) (n2 c2 : Nat) (hs : List (List ByteArray)) (k : Int) (w : World) (hd : TxtsAt w ad nd ds) (h1 : IntsAt w a1 n1 ns) (h2 : HavAt w a2 n2 hs) (hK : KAt w) (hT : TzAt w) :
    Calls Tryz.prog 7 #[.slice ad nd cd, .slice a1 n1 c1, .slice a2 n2 c2, .int .i64 k] w fun e w' => ∃ v, e = .returned (.tuple #[v, .bool (rpB ds ns hs k)]) ∧ OwnR cpyE w' w.heap.size v (spL ds ns hs k) ∧ Below w.heap.size w w' := by
  have h0 : 2 < w.heap.size := lt_of_cell (hK 0 (by omega))
  have HSV := hide (surveyOf_calls ad nd cd ds a1 n1 c1 ns a2 n2 c2 hs k w hd h1 h2)
  cases hB : rpB ds ns hs k with
  | false =>
    have HSN := hide ((unhide HSV).mono (fun e w' h => (show e = .returned (.tuple #[.agg zeroSv, .bool false]) ∧ Below w.heap.size w w' from by
      rcases h.2 with ⟨_, q⟩ | ⟨q, _⟩
      · exact ⟨q, h.1⟩
      · rw [hB] at q; cases q)))
    unfold zeroSv at HSN
    rw [spL_no hB]
    clear hd h1 h2 hK hT hB HSV
    go_enter Tryz.func7, Tryz.ntmps7
    go_wp2_with fail
    refine (unhide HSN).mono ?_
    rintro e w1 ⟨rfl, hb1⟩
    have HB1 := hide (belOnD hb1 (bel1D w1 (.cells #[.slice none 0 0, .int .i64 0, .map none] 45)))
    clear hb1
    go_wp2_with fail
    exact bodyPost_ret (v := .tuple #[_, .bool false]) (by simp [results, Tryz.results7, go_sem]) rfl ⟨_, rfl, ownR_nil _ _ _, unhide HB1⟩
  | true =>
    have HSY := hide ((unhide HSV).mono (fun e w' h => (show ∃ b m, e = .returned (.tuple #[.agg (svC a1 n1 c1 k b), .bool true]) ∧ NsT w' b m (fun d => setN (ownL ns hs d)) ∧ Below w.heap.size w w' from by
      rcases h.2 with ⟨q, _⟩ | ⟨_, b, m, q1, _, q2⟩
      · rw [hB] at q; cases q
      · exact ⟨b, m, q1, q2, h.1⟩)))
    unfold svC at HSY
    rw [spL_yes hB]
    obtain ⟨q1, q2, q3, q4, q5⟩ := rpB_parts hB
    have hk := (kB_iff k).1 q4
    obtain ⟨K, rfl⟩ := Int.eq_ofNat_of_zero_le (show 0 ≤ k by omega)
    rw [Int.toNat_natCast]
    have hnn : n2 = n1 := by rw [← h2.1, q3, h1.len]
    subst hnn
    have hb50 := okIds_len ns 0 (by decide) q2
    have hbf := (okIds_facts ns 0 (by decide) q2).2
    have HSA := hide (fun (W : World) (hW : Below w.heap.size w W) (b m : Nat) (hN : NsT W b m (fun d => setN (ownL ns hs d))) => spareAt_calls a1 n2 c1 ns hs K b m ad nd cd ds W (hd.below hW) (h1.below hW) hN q2 q1 (by omega) (by omega) (hK.below hW h0))
    have HNS := hide (fun (W : World) (hW : Below w.heap.size w W) => (h1.below hW).row)
    have HHV := hide h2
    have HSL := hide (fun (p : Nat) => spS_len ds ns hs K p (fun x hx => (setB_all (q5 x hx)).1) (by omega))
    have HS1 := hide (fun (x : Int) (l : List ByteArray) => sp1_len ds ns hs K x l)
    have HSB := hide (fun (p : Nat) (hp : p < hs.length) => setB_all (q5 hs[p] (by simp)))
    have HNX := hide (fun (p : Nat) (g1 : p < ns.length) (g2 : p < hs.length) => spS_next ds ns hs K p g1 g2)
    have HNJ := hide (fun (x : Int) (l : List ByteArray) (j : Nat) (h : j < l.length) => sp1_next ds ns hs K x l j h)
    have HIN := hide (fun (p : Nat) (g1 : p < ns.length) (g2 : p < hs.length) (d : ByteArray) (hdd : d ∈ hs[p]) => spB_in ds ns hs K p g1 g2 d hdd)
    have HHC := hide (fun (W : World) (p : Nat) (g1 : p < ns.length) (l : List Int) => has_calls l ns[p] W (by have := hbf ns[p] (by simp); omega) (by have := hbf ns[p] (by simp); omega))
    have HLN := hide h2.1
    have HLM := hide h1.len
    have hn50 : n2 ≤ 50 := by have := h1.len; omega
    clear hd h1 h2 hB q1 q2 q4 q5 hk hb50 hbf hK hT HSV
    go_enter Tryz.func7, Tryz.ntmps7
    go_wp2_with fail
    refine (unhide HSY).mono ?_
    rintro e w1 ⟨b, mN, rfl, hN1, hb1⟩
    obtain ⟨V1, hV1⟩ : ∃ V1, V1 = w1.alloc (.cells #[.slice a1 n2 c1, .int .i64 K, .map (some b)] 45) := ⟨_, rfl⟩
    have hbv : Below w1.heap.size w1 V1 := by rw [hV1]; exact bel1D _ _
    have HB1 := hide (belOnD hb1 hbv)
    have HN1 := hide (hN1.keep hbv)
    have r0 : V1.cell? ⟨w1.heap.size, 0, none⟩ = some (.slice a1 n2 c1) := by rw [hV1]; simp [go_sem]
    have r1 : V1.cell? ⟨w1.heap.size, 1, none⟩ = some (.int .i64 K) := by rw [hV1]; simp [go_sem]
    have r2 : V1.cell? ⟨w1.heap.size, 2, none⟩ = some (.map (some b)) := by rw [hV1]; simp [go_sem]
    have HV1 := hide hV1.symm
    clear hb1 hV1 hbv hN1 HSY
    go_wp2_with fail
    rw [unhide HV1]
    go_wp2_with fail
    refine (unhide HSA V1 (unhide HB1) b mN (unhide HN1)).mono ?_
    rintro e w2 ⟨b2, m2, rfl, hN2, hb2⟩
    have HB2 := hide (belOnD (unhide HB1) hb2)
    have HN2 := hide hN2
    have HNK := hide (fun (W : World) (hW : Below w2.heap.size w2 W) => (unhide HN2).keep hW)
    have hz2 := (unhide HB2).size
    clear hb2 hN2 r0 r1 r2 HN1 HB1 HSA HV1 HN2
    go_wp2_with fail
    go_loopw [13, 33] (fun s13 s33 wr => ∃ (p : Nat), s33 = .int .i64 p ∧ p ≤ n2 ∧ w2.heap.size ≤ wr.heap.size ∧ Hid (OwnR cpyE wr w2.heap.size s13 (spS ds ns hs K p)) ∧ Hid (Below w2.heap.size w2 wr)) (fun _ s33 _ => n2 - (intOf s33).toNat)
    case atStart => exact ⟨0, rfl, by omega, Nat.le_refl _, hide (ownR_nil _ _ _), hide (Below.refl _ _)⟩
    case round =>
      obtain ⟨p, rfl, hp, hz, HO, HB⟩ := hrel
      have hPl := unhide HSL p
      obtain ⟨np, hnp⟩ : ∃ np, (spS ds ns hs K p).length = np := ⟨_, rfl⟩
      obtain ⟨a8, c8, hv8⟩ := (unhide HO).form
      rw [hnp] at hv8
      subst hv8
      by_cases hpn : p < n2
      · have hpl : p < hs.length := by rw [unhide HLN]; exact hpn
        have hpm : p < ns.length := by rw [unhide HLM]; exact hpn
        obtain ⟨g, ai, ci, e1, l1, p00, ht⟩ := (unhide HHV).2.2 p hpl
        have HPC := hide (fun (W : World) (hW : Below w2.heap.size w2 W) => bclW (belOnD (unhide HB2) hW) l1 p00)
        have HTX := hide (fun (W : World) (hW : Below w2.heap.size w2 W) => ht.row.below (belOnD (unhide HB2) hW))
        have hsb := unhide HSB p hpl
        have HST := hide (unhide HNX p hpm hpl)
        have HND := hide (fun (W : World) (hW : Below w2.heap.size w2 W) => (unhide HNS W (belOnD (unhide HB2) hW)).ix p hpm)
        have HINP := hide (unhide HIN p hpm hpl)
        have HHCP := hide (fun (W : World) (l : List Int) => unhide HHC W p hpm l)
        generalize ns[p] = x at HST HND HINP HHCP
        generalize hs[p] = xs at HPC HTX hsb HST HINP
        obtain ⟨gn, en, -, pn0, -⟩ := unhide HND wr (unhide HB)
        obtain ⟨L, hL⟩ : ∃ L, xs.length = L := ⟨_, rfl⟩
        rw [hL] at HPC hsb
        have HXL := hide hL
        have h200 := hsb.1
        have HALL := hide hsb.2
        have HPL := hide hPl
        have pc := unhide HPC wr (unhide HB)
        have i0 : (0 : Int) ≤ (p : Int) := by omega
        have i1 : (p : Int) < (n2 : Int) := by omega
        subst e1 en
        clear hsb hL ht p00 HND hPl HSB HNX HIN HHC hnp
        go_wp2_with fail
        go_loopw [13, 43] (fun s13 s43 wq => ∃ (j : Nat), s43 = .int .i64 j ∧ j ≤ L ∧ w2.heap.size ≤ wq.heap.size ∧ Hid (OwnR cpyE wq w2.heap.size s13 (spS ds ns hs K p ++ sp1 ds ns hs K x (xs.take j))) ∧ Hid (Below w2.heap.size w2 wq)) (fun _ s43 _ => L - (intOf s43).toNat)
        case atStart => exact ⟨0, rfl, by omega, hz, hide (by simpa [sp1] using unhide HO), HB⟩
        case round =>
          clear HO HB hz pc pn0
          obtain ⟨j, rfl, hj, hz, HO, HB⟩ := hrel
          have hql : (spS ds ns hs K p ++ sp1 ds ns hs K x (xs.take j)).length ≤ 10200 := by
            have h3 := unhide HS1 x (xs.take j)
            have h4 := unhide HPL
            rw [List.length_take] at h3
            rw [List.length_append]
            omega
          obtain ⟨q, hq⟩ : ∃ q, (spS ds ns hs K p ++ sp1 ds ns hs K x (xs.take j)).length = q := ⟨_, rfl⟩
          obtain ⟨a10, c10, hv10⟩ := (unhide HO).form
          rw [hq] at hv10 hql
          subst hv10
          by_cases hjL : j < L
          · have hjl : j < xs.length := by rw [unhide HXL]; exact hjL
            obtain ⟨gx, ex, lx, px, -⟩ := (unhide HTX wr (unhide HB)).str j hjl
            have hd71 := digB_len71 (unhide HALL xs[j] (by simp))
            have HSJ := hide (unhide HNJ x xs j hjl)
            have hin := unhide HINP xs[j] (by simp)
            generalize xs[j] = d at px hd71 HSJ hin
            have hlk := (unhide HNK wr (unhide HB)).look (d := d) (by omega)
            have HC := hide (unhide HHCP wr (spF ns hs K ds d))
            rw [← hin] at HC
            generalize spB ds ns hs K x d = bs at HSJ HC
            generalize setN (spF ns hs K ds d) = Sp at HC hlk
            generalize spS ds ns hs K p = P at HO HSJ hq HST
            generalize sp1 ds ns hs K x (xs.take j) = P2 at HO HSJ hq
            have j0 : (0 : Int) ≤ (j : Int) := by omega
            have j1 : (j : Int) < (L : Int) := by omega
            subst ex
            cases bs with
            | false =>
              have HE := hide (show sp1 ds ns hs K x (xs.take (j + 1)) = P2 from by rw [unhide HSJ]; simp)
              clear HSJ hin hq
              go_wp2_with fail
              refine (unhide HC).mono ?_
              rintro e w5 ⟨rfl, rfl⟩
              go_wp2_with fail
              go_roundw
              case rel => exact ⟨j + 1, by go_num, by omega, hz, hide (by rw [unhide HE]; exact unhide HO), HB⟩
              case measure => simp [intOf]; omega
            | true =>
              have HE := hide (show P ++ sp1 ds ns hs K x (xs.take (j + 1)) = (P ++ P2) ++ [(⟨d, x, x⟩ : Cpy)] from by rw [unhide HSJ, if_pos rfl, List.append_assoc])
              have HLQ := hide (show ((P ++ P2) ++ [(⟨d, x, x⟩ : Cpy)]).length = q + 1 from by rw [List.length_append, hq]; rfl)
              have hlen : (P ++ P2).length < 100000000 := by omega
              clear HSJ hin hq
              go_wp2_with fail
              refine (unhide HC).mono ?_
              rintro e w5 ⟨rfl, rfl⟩
              go_wp2_with (at_builtin; go_must (refine appR (e := cpyE) rfl _ _ rfl (unhide HO) rfl (⟨d, x, x⟩ : Cpy) rfl _ rfl rfl hlen hz ?_); intro v' w6 hown6 hb6 hg6; obtain ⟨a3, c3, hv'⟩ := hown6.form; rw [unhide HLQ] at hv'; subst hv')
              go_roundw
              case rel => exact ⟨j + 1, by go_num, by omega, Nat.le_trans hz hb6.size, hide (by rw [unhide HE]; exact hown6), hide ((unhide HB).trans hb6)⟩
              case measure => simp [intOf]; omega
          · obtain rfl : j = L := by omega
            have HOE := hide (show OwnR cpyE wr w2.heap.size (.slice a10 q c10) (spS ds ns hs K (p + 1)) from by
              have h3 := unhide HO
              rw [List.take_of_length_le (by rw [unhide HXL]; exact Nat.le_refl _)] at h3
              rw [unhide HST]
              exact h3)
            clear HO hq
            go_wp2_with fail
            go_roundw
            case rel => exact ⟨p + 1, by go_num, by omega, hz, HOE, HB⟩
            case measure => simp [intOf]; omega
      · obtain rfl : p = n2 := by omega
        rw [← unhide HLM]
        have HOF := hide (show OwnR cpyE wr w2.heap.size (.slice a8 np c8) (spS ds ns hs K ns.length) from by rw [unhide HLM]; exact unhide HO)
        clear HO hnp
        go_wp2_with fail
        exact bodyPost_ret (v := .tuple #[.slice a8 np c8, .bool true]) (by simp [results, Tryz.results7, go_sem]) rfl ⟨_, rfl, (unhide HOF).le hz2, belOnD (unhide HB2) (unhide HB)⟩
end Go.Proofs.YtmienlnhbdbefaaGreatDoor

