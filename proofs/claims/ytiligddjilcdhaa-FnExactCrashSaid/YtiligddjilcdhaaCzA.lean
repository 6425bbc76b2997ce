/- Texts of one kind, put together. -/
import Derived.Test.YtiligddjilcdhaaDskI
import Derived.Defers
import Derived.Recover
import Derived.Deep.RegionHeld3
import Derived.Test.YtiligddjilcdhaaOnlP
import Derived.Test.YtiligddjilcdhaaRowK
import Derived.Test.YtiligddjilcdhaaPrs
import Derived.Deep.QuietTactic
import Derived.BigQuiet
import Derived.Test.YtiligddjilcdhaaDopR
import Derived.Test.YtiligddjilcdhaaDskR
import Derived.Test.YtiligddjilcdhaaDoI

/- Power that goes: the deferred recover. -/
namespace Go.Proofs.Ytiligddjilcdhaa
open Go.RowKit Go.Maps Plain
set_option linter.unusedVariables false

def Plain.lossE : PanicEntry := { v := .iface 93 (.agg #[]), recovered := false }
theorem ta_loss (w : World) : (Instr.typeAssert (.iface 93 (.agg #[])) 20 93 true).run Try.prog w = .ok (.tuple #[.agg #[], .bool true]) w := by kernel_rfl
theorem ta_nil (w : World) : (Instr.typeAssert .nilIface 20 93 true).run Try.prog w = .ok (.tuple #[.agg #[], .bool false]) w := by kernel_rfl
theorem eql_nil (w : World) : (binOp .eql 20 .nilIface .nilIface).run Try.prog w = .ok (.bool true) w := by kernel_rfl
theorem eql_loss (w : World) : (binOp .eql 20 (.iface 93 (.agg #[])) .nilIface).run Try.prog w = .ok (.bool false) w := by kernel_rfl

set_option maxRecDepth 10000 in
theorem catch_loss (w : World) :
    CallsD Try.prog 57 #[] (.panicking [lossE]) w fun e u' w' =>
      e = .returned (.tuple #[]) ∧ u' = .panicking [{ v := .iface 93 (.agg #[]), recovered := true }] ∧ w' = w := by
  refine callsD_of_wpS Try.func57 rfl fun c₀ cs hu => ?_
  apply wpS_seq
  apply wpS_region
  simp [wpOpsS, go_sem, recoverD, hu, lossE, Try.ntmps57, Exit.thenS]
  refine wpS_of_wp ?_
  have h1 := ta_loss
  have h2 := eql_loss
  go_wp2
  simp [bodyPostS, results, Try.results57]

set_option maxRecDepth 10000 in
theorem catch_none (w : World) :
    CallsD Try.prog 57 #[] .returning w fun e u' w' => e = .returned (.tuple #[]) ∧ u' = .returning ∧ w' = w := by
  refine callsD_of_wpS Try.func57 rfl fun c₀ cs hu => ?_
  apply wpS_seq
  apply wpS_region
  simp [wpOpsS, go_sem, recoverD, hu, Try.ntmps57, Exit.thenS]
  refine wpS_of_wp ?_
  have h1 := ta_nil
  have h2 := eql_nil
  go_wp2
  simp [bodyPostS, results, Try.results57]
  cases c₀
  simp_all

theorem meth_tear (n d : ByteArray) (k : Int) (w : World) : (method 260 98 (.agg #[.string n, .string d, .int .i64 k]) "loop.example/g00141/impl.file").run Try.prog w = .ok (110, .agg #[.string n, .string d]) w := by kernel_rfl
theorem ta_tear1 (n d : ByteArray) (k : Int) (w : World) : (Instr.typeAssert (.iface 98 (.agg #[.string n, .string d, .int .i64 k])) 88 95 true).run Try.prog w = .ok (.tuple #[.agg #[.string ⟨#[]⟩, .string ⟨#[]⟩], .bool false]) w := by kernel_rfl
theorem ta_tear2 (n d : ByteArray) (k : Int) (w : World) : (Instr.typeAssert (.iface 98 (.agg #[.string n, .string d, .int .i64 k])) 88 98 true).run Try.prog w = .ok (.tuple #[.agg #[.string n, .string d, .int .i64 k], .bool true]) w := by kernel_rfl
theorem Plain.strAddT {a b : ByteArray} (W : World) (h : a.size + b.size ≤ 9000000000000) : (Op.stringOp .add a b).run Try.prog W = .ok (.string (a ++ b)) W := by
  have h1 : ¬ ((a.size + b.size : Nat) : Int) > IntKind.i64.max := by rw [show IntKind.i64.max = 9223372036854775807 from rfl]; omega
  unfold Op.stringOp
  simp only [if_neg h1]
  rfl

set_option maxRecDepth 10000 in
set_option maxHeartbeats 4000000 in
theorem apply_tear (b m : Nat) (f : ByteArray → Option ByteArray) (n d : ByteArray) (k : Nat) (w : World) (h : Tab w b m f) (hm : m ≤ 1000000) (hn : n.size ≤ 1000000000000) (hd : d.size ≤ 1000000000000) (hk : k ≤ d.size) (hf : ∀ x y, f x = some y → y.size ≤ 1000000000000) :
    Calls Try.prog 55 #[.map (some b), .iface 98 (.agg #[.string n, .string d, .int .i64 k])] w fun e w' => e = .panicked [lossE] ∧ Hid (Tab w' b (m + 1) (updT f n (some ((f n).getD ⟨#[]⟩ ++ d.extract 0 k)))) ∧ OnlyRow (some ⟨b, 0, none⟩) w w' := by
  obtain ⟨old, hold⟩ : ∃ old, (f n).getD ⟨#[]⟩ = old := ⟨_, rfl⟩
  rw [hold]
  have hos : old.size ≤ 1000000000000 := by
    rw [← hold]
    cases hfn : f n with
    | none => decide
    | some y => exact hf n y hfn
  have hlt := h.lt
  obtain ⟨D, hown, hD⟩ := h
  obtain ⟨x, t, hv2, hv3⟩ : ∃ (x : ByteArray) (t : Bool), Maps.has D (keyL n) = t ∧ D.atKey (keyL n) (flD (⟨#[]⟩, ⟨#[]⟩)) = flD (x, old) := by
    have hx := hD n
    cases hfn : f n with
    | none => rw [hfn] at hx hold; subst hold; exact ⟨⟨#[]⟩, false, hx, atKey_of_not_has hx _⟩
    | some o => rw [hfn] at hx hold; subst hold; exact ⟨n, true, hx.1, hx.2 _⟩
  have hkey : keyOf Try.prog 9 (.string n) = some (keyL n) := Go.WideMaps.keyOf_string_mk Try.underlying9 (by unfold maxLen; omega)
  have hcs : (d.extract 0 k).size ≤ 1000000000000 := by rw [ByteArray.size_extract]; omega
  obtain ⟨cut, hcut⟩ : ∃ c, d.extract 0 k = c := ⟨_, rfl⟩
  rw [hcut] at hcs ⊢
  have hadd := fun W => strAddT (a := old) (b := cut) W (by omega)
  have HKEY := hide hkey
  have HOW := hide hown
  have HDP := hide (hD.put hown.isMap n (old ++ cut))
  have hme := meth_tear n d k w
  have H2 := hide hv2
  have H3 := hide hv3
  have hta1 := ta_tear1 n d k
  have hta2 := ta_tear2 n d k
  have hk0 : (0 : Int) ≤ (k : Int) := by omega
  have hk1 : (k : Int) ≤ (d.size : Int) := by omega
  clear hkey hown hD hv2 hv3 hold hf
  go_enter Try.func55, Try.ntmps55
  go_wp2_with fail
  refine (file_app n d w).mono ?_
  rintro e w1 ⟨rfl, hb1⟩
  have HO1 := hide (ownsMap_below (unhide HOW) hb1 hlt)
  have HB1 := hide (OnlyRow.of (a := some ⟨b, 0, none⟩) hb1)
  have hz1 := hb1.size
  clear hme hb1
  go_wp2_with (first
    | (at_lookup; refine wpList_lookup_own_ok _ rfl _ _ 57 rfl 9 81 law_str Try.underlying57 flElem (zeroF _) (flD (⟨#[]⟩, ⟨#[]⟩)) [] (flElem_mk _ _) b m D rfl (unhide HO1) _ (keyL n) rfl (unhide HKEY) ?_; intro v ps hv; rw [unhide H3] at hv; obtain rfl := flElem_inv hv; clear hv; rw [unhide H2]))
  obtain ⟨W2, hW2⟩ : ∃ W2, W2 = (w1.alloc (.cells #[.string x, .string old] 81)).alloc (.cells #[.string n, .string d, .int .i64 k] 98) := ⟨_, rfl⟩
  have hbw : b < w1.heap.size := by omega
  have hb2 : Below w1.heap.size w1 W2 := by rw [hW2]; exact belOn (bel1 _ _) (bel1 _ _)
  have q1 : W2.cell? ⟨w1.heap.size, 1, none⟩ = some (.string old) := by rw [hW2]; exact bcl (bel1 _ _) (by simp) (by simp [go_sem])
  have p0 : W2.cell? ⟨w1.heap.size + 1, 0, none⟩ = some (.string n) := by rw [hW2, show w1.heap.size + 1 = (w1.alloc (.cells #[.string x, .string old] 81)).heap.size from by simp]; simp [go_sem]
  have p1 : W2.cell? ⟨w1.heap.size + 1, 1, none⟩ = some (.string d) := by rw [hW2, show w1.heap.size + 1 = (w1.alloc (.cells #[.string x, .string old] 81)).heap.size from by simp]; simp [go_sem]
  have p2 : W2.cell? ⟨w1.heap.size + 1, 2, none⟩ = some (.int .i64 k) := by rw [hW2, show w1.heap.size + 1 = (w1.alloc (.cells #[.string x, .string old] 81)).heap.size from by simp]; simp [go_sem]
  have ho2 : W2.drew.ownsMap Try.prog 9 flElem b m D := ownsMap_of (unhide HO1) (belDrew hb2)
  obtain ⟨w6, hupd, r1, r2⟩ := ho2.update law_str Try.underlying57 (by unfold maxLen; omega) (unhide HKEY) (flElem_mk n (old ++ cut))
  have far : ∀ (g i : Nat) (u : Value), W2.cell? ⟨g, i, none⟩ = some u → g ≠ b → w6.cell? ⟨g, i, none⟩ = some u := fun g i u hc hne => (r2.cell_far ⟨g, i, none⟩ (lt_of_cell (w := W2) hc) (fun q => hne (Option.some.inj q))).trans hc
  have c1 := far _ _ _ q1 (by omega)
  have d0 := far _ _ _ p0 (by omega)
  have d1 := far _ _ _ p1 (by omega)
  have d2 := far _ _ _ p2 (by omega)
  have HR1 := hide r1
  have HR2 := hide r2
  have HW2 := hide hW2.symm
  have HB2 := hide hb2
  clear far r1 r2 ho2 hW2 hb2 HO1 HOW hta1 hta2
  rw [unhide HW2]
  go_region_held3 (fun w' => w'.cell? ⟨w1.heap.size, 1, none⟩ = some (.string old) ∧ w'.cell? ⟨w1.heap.size + 1, 0, none⟩ = some (.string n) ∧ w'.cell? ⟨w1.heap.size + 1, 1, none⟩ = some (.string d) ∧ w'.cell? ⟨w1.heap.size + 1, 2, none⟩ = some (.int .i64 k)) (go_keep) (fail)
  all_goals (try go_wp2_with fail)
  refine ⟨rfl, ?_⟩
  refine ⟨rfl, hide ⟨_, unhide HR1, unhide HDP⟩, ((unhide HB1).trans (OnlyRow.of (belDrew (unhide HB2)))).trans (OnlyRow.grown (unhide HR2))⟩
end Go.Proofs.Ytiligddjilcdhaa


/- Changes that are done until power goes. -/
namespace Go.Proofs.Ytiligddjilcdhaa
open Go.RowKit Go.Maps Plain
set_option linter.unusedVariables false

namespace Plain
/-- A change that is kept: that of an op, or the beginning of an append. -/
inductive Chg where
  | op (o : Dop)
  | tear (n d : ByteArray) (k : Nat)
def Chg.val : Chg → Value
  | .op o => chV o
  | .tear n d k => .iface 98 (.agg #[.string n, .string d, .int .i64 k])
def Chg.asOp : Chg → Dop
  | .op o => o
  | .tear n d k => ⟨1, n, ⟨#[]⟩, d.extract 0 k⟩
def crF (fs : List Fl) (cs : List Chg) : List Fl := cs.foldl (fun fs c => (doF fs c.asOp).1) fs
theorem crF_take (fs : List Fl) (cs : List Chg) (k : Nat) (h : k < cs.length) : crF fs (cs.take (k + 1)) = (doF (crF fs (cs.take k)) cs[k].asOp).1 := by
  unfold crF
  rw [List.take_succ_eq_append_getElem h, List.foldl_append]
  rfl
theorem chV_one (o : Dop) : (∃ t v, chV o = .iface t v) ∨ chV o = .nilIface := by
  unfold chV
  split
  · split
    · exact .inl ⟨_, _, rfl⟩
    · split
      · exact .inl ⟨_, _, rfl⟩
      · split
        · exact .inl ⟨_, _, rfl⟩
        · exact .inr rfl
  · exact .inr rfl
theorem Chg.one (c : Chg) : (∃ t v, c.val = .iface t v) ∨ c.val = .nilIface := by
  cases c with
  | op o => exact chV_one o
  | tear n d k => exact .inl ⟨_, _, rfl⟩
/-- No name and no file is too long. -/
def BndF (B : Nat) (fs : List Fl) : Prop := ∀ f ∈ fs, f.1.size ≤ 1000000000 ∧ f.2.size ≤ B
theorem do_bnd {B : Nat} {fs : List Fl} (h : BndF B fs) {o : Dop} (ho : SmO o) : BndF (B + 1000000000) (doF fs o).1 := by
  obtain ⟨h1, h2, h3⟩ := ho
  have hg : ∀ i, ((fs.getD i (⟨#[]⟩, ⟨#[]⟩)).2).size ≤ B := fun i => by
    rw [List.getD_eq_getElem?_getD]
    by_cases hi : i < fs.length
    · rw [List.getElem?_eq_getElem hi]; exact (h _ (List.getElem_mem hi)).2
    · rw [List.getElem?_eq_none (by omega)]; show (0 : Nat) ≤ _; omega
  unfold doF
  split
  · intro f hf
    rcases (mem_put _ _ _ f).1 hf with rfl | hf
    · refine ⟨h1, ?_⟩
      split
      · rename_i i _
        show (_ ++ o.data).size ≤ _
        rw [ByteArray.size_append]
        have := hg i
        omega
      · show o.data.size ≤ _; omega
    · have := h f hf.1; omega
  · split
    · intro f hf; have := h f hf; omega
    · rename_i i _
      show BndF _ (if o.kind = 2 then _ else _)
      split
      · intro f hf
        rcases (mem_put _ _ _ f).1 hf with rfl | hf
        · exact ⟨h2, Nat.le_trans (hg i) (by omega)⟩
        · have := h f ((mem_cut _ _ f).1 hf.1).1; omega
      · intro f hf; have := h f ((mem_cut _ _ f).1 hf).1; omega
theorem BndF.fit {B : Nat} {fs : List Fl} (h : BndF B fs) (hB : B ≤ 1000000000000) : FitF fs := fun f hf => by have := h f hf; omega
/-- What is asked of a change. -/
def ChgOk : Chg → Prop
  | .op o => formB o = true ∧ SmO o
  | .tear n d k => n.size ≤ 1000000000 ∧ d.size ≤ 1000000000 ∧ k ≤ d.size
theorem ChgOk.sm {c : Chg} (h : ChgOk c) : SmO c.asOp := by
  cases c with
  | op o => exact h.2
  | tear n d k =>
    obtain ⟨h1, h2, h3⟩ := h
    refine ⟨h1, by show (0 : Nat) ≤ _; omega, ?_⟩
    show (d.extract 0 k).size ≤ _
    rw [ByteArray.size_extract]
    omega
end Plain

/-- Changes as elements. -/
def chgE : Elem Chg where
  E := 88
  S := 60
  n := 1
  bytes := 16
  zero := .nilIface
  enc := fun c => [c.val]
  hund := Try.underlying60
  hinfo := by kernel_rfl
  hz := rfl
  hn := by decide
  hb := by decide
  hlen := fun _ => rfl
  hone := fun x u hu => by
    simp at hu
    subst hu
    rcases x.one with ⟨t, v, h⟩ | h
    · rw [h]; rfl
    · rw [h]; rfl
theorem RowAt.chg {W : World} {a : Option Addr} {xs : List Chg} (h : RowAt chgE W a xs) (i : Nat) (hi : i < xs.length) : ∃ g, a = some ⟨g, 0, none⟩ ∧ g < W.heap.size ∧ W.cell? ⟨g, i, none⟩ = some xs[i].val := by
  obtain ⟨g, e1, hl, h1⟩ := h i hi
  have := (h1 0 (by decide)).1
  rw [show i * chgE.n + 0 = i from Nat.mul_one i] at this
  exact ⟨g, e1, hl, this⟩

/-- What is left behind changes. -/
def UntilPost (b m : Nat) (fs : List Fl) (cs : List Chg) (w : World) (e : Ending) (w' : World) : Prop :=
  e = .returned (.tuple #[]) ∧ Hid (Tab w' b (m + cs.length) (tabF (crF fs cs))) ∧ OnlyRow (some ⟨b, 0, none⟩) w w'

set_option maxRecDepth 10000 in
set_option maxHeartbeats 4000000 in
theorem until_calls (b m : Nat) (fs : List Fl) (a : Option Addr) (n c : Nat) (cs : List Chg) (w : World) (h : Tab w b m (tabF fs)) (hr : Risen fs) (hm : m ≤ 1000) (hB : BndF 1000000 fs) (hn : cs.length = n) (hn2 : n ≤ 200) (hrow : RowAt chgE w a cs) (hne : ¬ inB a b) (hok : ∀ x ∈ cs, ChgOk x) (hlast : ∀ i (hi : i < cs.length), (∃ x y k, cs[i] = .tear x y k) → i + 1 = cs.length) :
    Calls Try.prog 28 #[.map (some b), .slice a n c] w (UntilPost b m fs cs w) := by
  have HN := hide hn
  have HRW := hide hrow
  have HOK := hide hok
  have HLA := hide hlast
  have HNE := hide hne
  have HT0 := hide (show Tab w b (m + 0) (tabF (crF fs (cs.take 0))) from h)
  have HR0 := hide hr
  have HB0 := hide hB
  clear h hr hB hrow hok hlast hn hne
  go_enter_defers Try.func28, Try.ntmps28
  go_wp2_with fail
  go_loopw [8] (fun i wr => ∃ k : Nat, i = .int .i64 k ∧ k ≤ n ∧ Hid (Tab wr b (m + k) (tabF (crF fs (cs.take k)))) ∧ Hid (Risen (crF fs (cs.take k)) ∧ BndF (1000000 + k * 1000000000) (crF fs (cs.take k))) ∧ Hid (OnlyRow (some ⟨b, 0, none⟩) w wr)) (fun i _ => n - (intOf i).toNat)
  case atStart => exact ⟨0, rfl, by omega, HT0, hide ⟨unhide HR0, unhide HB0⟩, hide (OnlyRow.refl _ _)⟩
  case round =>
    clear HT0 HR0 HB0
    obtain ⟨k, rfl, hk, HT, HRB, HO⟩ := hrel
    by_cases hkn : k < n
    · have hkl : k < cs.length := by rw [unhide HN]; exact hkn
      obtain ⟨g, e1, l1, p0⟩ := ((unhide HRW).offR (unhide HO) (fun g hg ⟨o, e⟩ => by cases e; exact unhide HNE hg)).chg k hkl
      have hst := crF_take fs cs k hkl
      have hcok := unhide HOK cs[k] (by simp)
      have hla := unhide HLA k hkl
      obtain ⟨hri, hbn⟩ := unhide HRB
      have hbs := do_bnd hbn hcok.sm
      have hfit := hbn.fit (show 1000000 + k * 1000000000 ≤ 1000000000000 by omega)
      have i0 : (0 : Int) ≤ (k : Int) := by omega
      have i1 : (k : Int) < (n : Int) := by omega
      generalize cs[k] = x at p0 hst hcok hla hbs
      subst e1
      cases x with
      | op o =>
        have HAP := hide (apply_calls b (m + k) _ o wr (unhide HT) hri hcok.1 (by omega) hfit hcok.2.fit)
        have HST := hide hst
        have HRI := hide (risen_do hri o)
        have HBS := hide hbs
        have p0' : wr.cell? ⟨g, k, none⟩ = some (chV o) := p0
        obtain ⟨V, hV⟩ : ∃ V, chV o = V := ⟨_, rfl⟩
        rw [hV] at HAP p0'
        clear p0 hst hcok hla hbs hri hbn hfit hV hkl
        go_wp2_with (go_at_call 55; refine (unhide HAP).mono ?_; rintro e w1 ⟨rfl, ht1, ho1⟩)
        go_roundw
        case rel => exact ⟨k + 1, by go_num, by omega, by rw [unhide HST]; exact ht1, hide (by rw [unhide HST, show 1000000 + (k + 1) * 1000000000 = 1000000 + k * 1000000000 + 1000000000 from by omega]; exact ⟨unhide HRI, unhide HBS⟩), hide ((unhide HO).trans ho1)⟩
        case measure => simp [intOf]; omega
      | tear x y z =>
        have hend := hla ⟨x, y, z, rfl⟩
        rw [unhide HN] at hend
        have htf : ∀ u v, tabF (crF fs (cs.take k)) u = some v → v.size ≤ 1000000000000 := fun u v hx => (hfit (u, v) ((tabF_some _ hri.names u v).1 hx)).2
        obtain ⟨t1, t2, t3⟩ := hcok
        have HAP := hide (apply_tear b (m + k) _ x y z wr (unhide HT) (by omega) (by omega) (by omega) t3 htf)
        have hdo := (do_app hri ⟨1, x, ⟨#[]⟩, y.extract 0 z⟩ rfl).2
        have HFI := hide (show tabF (crF fs cs) = updT (tabF (crF fs (cs.take k))) x (some ((tabF (crF fs (cs.take k)) x).getD ⟨#[]⟩ ++ y.extract 0 z)) from by
          rw [← hdo]
          have : cs = cs.take (k + 1) := (List.take_of_length_le (by rw [unhide HN]; omega)).symm
          rw [this, hst, ← this]
          rfl)
        have p0' : wr.cell? ⟨g, k, none⟩ = some (.iface 98 (.agg #[.string x, .string y, .int .i64 z])) := p0
        have HEN := hide (show m + k + 1 = m + cs.length from by rw [unhide HN]; omega)
        clear p0 hst hla hbs hri hbn hfit hkl hdo htf
        go_wp2_with (go_at_call 55; refine (unhide HAP).mono ?_; rintro e w1 ⟨rfl, ht1, ho1⟩)
        refine leaves_cons (f := 57) (args := #[]) (by simp) (by simp [go_sem]) ?_
        refine (catch_loss _).mono ?_
        rintro e u' w'' ⟨rfl, rfl, rfl⟩
        simp [Leaves, settle, results, Try.results28, go_sem]
        exact ⟨rfl, hide (by rw [unhide HFI, ← unhide HEN]; exact unhide ht1), (unhide HO).trans ho1⟩
    · obtain rfl : k = n := by omega
      have HF := hide (unhide HT)
      rw [List.take_of_length_le (by rw [unhide HN]; exact Nat.le_refl _)] at HF
      clear HT HRB
      go_wp2_with fail
      refine leaves_cons (f := 57) (args := #[]) (by simp) (by simp [go_sem]) ?_
      refine (catch_none _).mono ?_
      rintro e u' w'' ⟨rfl, rfl, rfl⟩
      simp [Leaves, settle, results, Try.results28, go_sem]
      exact ⟨rfl, hide (by rw [unhide HN]; exact unhide HF), unhide HO⟩
end Go.Proofs.Ytiligddjilcdhaa


/- Rows of numbers, as the exact laws copy, measure and compare them. -/
namespace Go.Proofs.Ytiligddjilcdhaa
open Go.RowKit Plain
set_option linter.unusedVariables false

namespace Plain
def intL (z : Int) : List Value := [.int .i64 z]
def goodI (z : Int) : Prop := (Lit.int .i64 z).wf = true
end Plain
theorem rdInt {H : Type} {enc : TypeId × Value → H} {W : World} {spare : Nat → Bool} {held : Bool} : ∀ m us y, DataW.trod enc Try.prog W 0 spare held m 2 us = some y → ∃ z, us = intL z ∧ goodI z := by
  intro m us y h
  obtain ⟨s0, e0, _, w0⟩ := DataW.trod_int Try.underlying2 h
  exact ⟨s0, by simpa [intL] using e0, w0⟩
/-- Numbers as elements. -/
def i64E : Elem Int where
  E := 2
  S := 26
  n := 1
  bytes := 8
  zero := .int .i64 0
  enc := intL
  hund := Try.underlying26
  hinfo := by kernel_rfl
  hz := rfl
  hn := by decide
  hb := by decide
  hlen := fun _ => rfl
  hone := fun x u hu => by simp [intL] at hu; subst hu; rfl
theorem Plain.ArgAt.ix {W : World} {a : Option Addr} {xs : List Int} (h : ArgAt 1 intL W a xs) (i : Nat) (hi : i < xs.length) : ∃ g o, a = some ⟨g, o, none⟩ ∧ g < W.heap.size ∧ W.cell? ⟨g, o + i, none⟩ = some (.int .i64 xs[i]) := by
  obtain ⟨g, o, e, hl, hc⟩ := h i hi
  have := hc 0 (by decide)
  rw [Nat.mul_one, Nat.add_zero] at this
  exact ⟨g, o, e, hl, this⟩
theorem RowAt.ix {W : World} {a : Option Addr} {xs : List Int} (h : RowAt i64E W a xs) (i : Nat) (hi : i < xs.length) : ∃ g, a = some ⟨g, 0, none⟩ ∧ g < W.heap.size ∧ W.cell? ⟨g, i, none⟩ = some (.int .i64 xs[i]) ∧ W.frozen? ⟨g, i, none⟩ = false := by
  obtain ⟨g, e1, hl, h1⟩ := h i hi
  have := h1 0 (by decide)
  rw [show i * i64E.n + 0 = i from Nat.mul_one i] at this
  exact ⟨g, e1, hl, this⟩

set_option maxRecDepth 10000 in
set_option maxHeartbeats 1000000 in
theorem toInt64S_calls (a : Option Addr) (n c : Nat) (ls : List Int) (w : World) (hn : ls.length = n) (hn2 : n ≤ 1048576) (h : ArgAt 1 intL w a ls) :
    Calls Try.prog 8 #[.slice a n c] w fun e w' => ∃ g, e = .returned (.slice (some ⟨g, 0, none⟩) n n) ∧ OwnR i64E w' w.heap.size (.slice (some ⟨g, 0, none⟩) n n) ls ∧ Below w.heap.size w w' := by
  have H := hide h
  have HN := hide hn
  have hmk : (Instr.makeSlice 26 (.int .i64 n) (.int .i64 n)).run Try.prog w = _ := make_row i64E n w (by omega)
  have HO := hide (own_made i64E 0 rfl n w (by omega))
  have hba : Below w.heap.size w (w.alloc (.cells (madeCells i64E.zero.cells (n * i64E.n)) i64E.E)) := bel1 _ _
  have HBA := hide hba
  have hlt : w.heap.size < (w.alloc (.cells (madeCells i64E.zero.cells (n * i64E.n)) i64E.E)).heap.size := by simp
  generalize w.alloc (.cells (madeCells i64E.zero.cells (n * i64E.n)) i64E.E) = wa at hmk HO HBA hlt hba
  clear h hn hba
  go_enter Try.func8, Try.ntmps8
  go_wp2_with fail
  go_loopw [4] (fun i wr => ∃ k : Nat, i = .int .i64 k ∧ k ≤ n ∧ Hid (OwnR i64E wr w.heap.size (.slice (some ⟨w.heap.size, 0, none⟩) n n) (ls.take k ++ List.replicate (n - k) 0)) ∧ Hid (Below w.heap.size w wr)) (fun i _ => n - (intOf i).toNat)
  case atStart => exact ⟨0, rfl, by omega, hide (by simpa using unhide HO), HBA⟩
  case round =>
    clear hmk HO HBA hlt
    obtain ⟨k, rfl, hk, HR, HB⟩ := hrel
    by_cases hlt : k < n
    · have hkl : k < ls.length := by rw [unhide HN]; exact hlt
      obtain ⟨g, o, e1, l1, p0⟩ := ((unhide H).below (unhide HB)).ix k hkl
      have hlen : (ls.take k ++ List.replicate (n - k) (0 : Int)).length = n := by rw [List.length_append, List.length_take, List.length_replicate, unhide HN]; omega
      have hset : (ls.take k ++ List.replicate (n - k) (0 : Int)).set k ls[k] = ls.take (k + 1) ++ List.replicate (n - (k + 1)) 0 := by
        rw [List.set_append_right _ _ (by rw [List.length_take]; omega), List.length_take, show k - min k ls.length = 0 from by omega, show n - k = (n - (k + 1)) + 1 from by omega, List.replicate_succ, List.set_cons_zero, List.take_succ_eq_append_getElem hkl, List.append_assoc]
        rfl
      generalize (ls.take k ++ List.replicate (n - k) (0 : Int)) = cur at HR hlen hset
      generalize ls[k] = x at p0 hset
      clear H hkl
      subst e1
      have i0 : (0 : Int) ≤ (k : Int) := by omega
      have i1 : (k : Int) < (n : Int) := by omega
      have hkc : k < cur.length := by omega
      obtain ⟨g', e2, l2, q0, z0⟩ := (unhide HR).at.ix k hkc
      have hg : w.heap.size = g' := by simpa using e2
      subst hg
      have hS0 := (unhide HR).setJ hlen k hkc 0 (by decide) (.int .i64 x) x rfl
      rw [hset, show k * i64E.n + 0 = k from Nat.mul_one k] at hS0
      have HR3 := hide hS0
      generalize cur[k] = y at q0
      clear hS0 HR e2
      go_wp2_with fail
      go_roundw
      case rel => exact ⟨k + 1, by go_num, by omega, HR3, hide ((unhide HB).setCell (Nat.le_refl _) _)⟩
      case measure => simp [intOf]; omega
    · obtain rfl : k = n := by omega
      have HF := hide (unhide HR)
      rw [show ls.take k ++ List.replicate (k - k) (0 : Int) = ls from by rw [Nat.sub_self, List.replicate_zero, List.append_nil]; exact List.take_of_length_le (by rw [unhide HN]; exact Nat.le_refl _)] at HF
      clear HR
      go_wp2_with fail
      go_ret
      exact ⟨_, rfl, unhide HF, unhide HB⟩



set_option maxRecDepth 10000 in
set_option maxHeartbeats 1000000 in
theorem eqInt64S_calls (a1 a2 : Option Addr) (c1 c2 n : Nat) (ls : List Int) (w : World) (hn : ls.length = n) (hn2 : n ≤ 100000000) (h1 : RowAt i64E w a1 ls) (h2 : RowAt i64E w a2 ls) :
    Calls Try.prog 11 #[.slice a1 n c1, .slice a2 n c2] w fun e w' => e = .returned (.bool true) ∧ Below w.heap.size w w' := by
  have H1 := hide h1
  have H2 := hide h2
  have HN := hide hn
  clear h1 h2 hn
  go_enter Try.func11, Try.ntmps11
  go_wp2_with fail
  go_loopw [5] (fun i wr => ∃ (k : Nat), i = .int .i64 k ∧ k ≤ n ∧ Hid (Below w.heap.size w wr)) (fun i _ => n - (intOf i).toNat)
  case atStart => exact ⟨0, rfl, by omega, Below.refl _ _⟩
  case round =>
    obtain ⟨k, rfl, hk, HB⟩ := hrel
    by_cases hlt : k < n
    · have hkl : k < ls.length := by rw [unhide HN]; exact hlt
      obtain ⟨g1, e1, l1, p0, -⟩ := ((unhide H1).below (unhide HB)).ix k hkl
      obtain ⟨g2, e2, l2, q0, -⟩ := ((unhide H2).below (unhide HB)).ix k hkl
      generalize ls[k] = x at p0 q0
      clear H1 H2 hkl
      subst e1 e2
      have i0 : (0 : Int) ≤ (k : Int) := by omega
      have i1 : (k : Int) < (n : Int) := by omega
      go_wp2_with fail
      go_quiet (fail)
      all_goals (try go_wp2_with fail)
      all_goals exact ⟨⟨k + 1, by go_num, by omega, hide (belQ (unhide HB) _)⟩, by simp [intOf]; omega⟩
    · obtain rfl : k = n := by omega
      go_wp2_with fail
      go_ret
      exact ⟨rfl, unhide HB⟩
end Go.Proofs.Ytiligddjilcdhaa


/- Which ops are kept: their places, by the program. -/
namespace Go.Proofs.Ytiligddjilcdhaa
open Go.RowKit Go.Maps Plain
set_option linter.unusedVariables false

namespace Plain
/-- Places that rise and are below a number. -/
def PlAt (cnt : Int) (ls : List Int) (k : Nat) : Prop := (0 ≤ ls.getD k 0 ∧ ls.getD k 0 < cnt) ∧ (0 < k → ls.getD (k - 1) 0 < ls.getD k 0)
def PlOk (cnt : Int) (ls : List Int) : Prop := ∀ k, k < ls.length → PlAt cnt ls k
open Classical in
noncomputable def plB (cnt : Int) (ls : List Int) : Bool := decide (PlOk cnt ls)
open Classical in
theorem plB_no {cnt : Int} {ls : List Int} {k : Nat} (hk : k < ls.length) (h : ¬ PlAt cnt ls k) : plB cnt ls = false := by unfold plB; exact decide_eq_false fun q => h (q k hk)
open Classical in
theorem plB_yes {cnt : Int} {ls : List Int} (h : PlOk cnt ls) : plB cnt ls = true := by unfold plB; exact decide_eq_true h
open Classical in
theorem plB_ok {cnt : Int} {ls : List Int} (h : plB cnt ls = true) : PlOk cnt ls := by unfold plB at h; exact of_decide_eq_true h
theorem getD_at (ls : List Int) (k : Nat) (h : k < ls.length) : ls.getD k 0 = ls[k] := by rw [List.getD_eq_getElem?_getD, List.getElem?_eq_getElem h]; rfl
end Plain

set_option maxRecDepth 10000 in
set_option maxHeartbeats 2000000 in
theorem placesOk_calls (a : Option Addr) (n c : Nat) (ls : List Int) (cnt : Nat) (w : World) (hn : ls.length = n) (hn2 : n ≤ 1048576) (h : RowAt i64E w a ls) :
    Calls Try.prog 26 #[.slice a n c, .int .i64 cnt] w fun e w' => e = .returned (.bool (plB cnt ls)) ∧ w = w' := by
  have H := hide h
  have HN := hide hn
  obtain ⟨R, hR⟩ : ∃ R, plB cnt ls = R := ⟨_, rfl⟩
  rw [hR]
  have HR := hide hR
  clear h hn hR
  go_enter Try.func26, Try.ntmps26
  go_wp2_with fail
  go_loopw [9] (fun i wr => ∃ k : Nat, i = .int .i64 k ∧ k ≤ n ∧ Hid (∀ j, j < k → PlAt cnt ls j) ∧ wr = w) (fun i _ => n - (intOf i).toNat)
  case atStart => exact ⟨0, rfl, by omega, hide (fun j hj => by omega), rfl⟩
  case round =>
    obtain ⟨k, rfl, hk, HV, rfl⟩ := hrel
    by_cases hkn : k < n
    · have hkl : k < ls.length := by rw [unhide HN]; exact hkn
      obtain ⟨g, e1, l1, p0, -⟩ := (unhide H).ix k hkl
      have hgx := getD_at ls k hkl
      obtain ⟨x, hx⟩ : ∃ x, ls[k] = x := ⟨_, rfl⟩
      rw [hx] at p0 hgx
      subst e1
      have i0 : (0 : Int) ≤ (k : Int) := by omega
      have i1 : (k : Int) < (n : Int) := by omega
      have HGX := hide hgx
      by_cases hx0 : x < 0
      · have HF := hide (show R = false from by rw [← unhide HR]; exact plB_no hkl (fun q => by have := q.1.1; rw [unhide HGX] at this; omega))
        clear hgx hx
        go_wp2_with fail
        go_ret
        exact ⟨by rw [unhide HF]; rfl, rfl⟩
      by_cases hxc : (cnt : Int) ≤ x
      · have HF := hide (show R = false from by rw [← unhide HR]; exact plB_no hkl (fun q => by have := q.1.2; rw [unhide HGX] at this; omega))
        clear hgx hx
        go_wp2_with fail
        go_ret
        exact ⟨by rw [unhide HF]; rfl, rfl⟩
      rcases Nat.eq_zero_or_pos k with hk0 | hk0
      · subst hk0
        have HNX := hide (show ∀ j, j < 0 + 1 → PlAt cnt ls j from fun j hj => by
          obtain rfl : j = 0 := by omega
          exact ⟨by rw [unhide HGX]; omega, fun q => by omega⟩)
        clear hgx hx HV
        go_wp2_with fail
        go_roundw
        case rel => exact ⟨0 + 1, by go_num, by omega, HNX, by first | rfl | trivial⟩
        case measure => simp [intOf]; omega
      · obtain ⟨k, rfl⟩ : ∃ k', k = k' + 1 := ⟨k - 1, by omega⟩
        obtain ⟨g', e2, l2, p1, -⟩ := (unhide H).ix k (by omega)
        have hgg : g = g' := by simpa using e2
        subst hgg
        have hgy := getD_at ls k (by omega)
        obtain ⟨y, hy⟩ : ∃ y, ls[k]'(by omega) = y := ⟨_, rfl⟩
        rw [hy] at p1 hgy
        have HGY := hide hgy
        have i2 : ((k + 1 : Nat) : Int) - 1 = (k : Int) := by omega
        have i3 : (0 : Int) ≤ (k : Int) := by omega
        have i4 : (k : Int) < (n : Int) := by omega
        have i5 : (0 : Int) < ((k + 1 : Nat) : Int) := by omega
        by_cases hxy : x ≤ y
        · have HF := hide (show R = false from by rw [← unhide HR]; exact plB_no hkl (fun q => by have := q.2 (by omega); rw [unhide HGX, show k + 1 - 1 = k from rfl, unhide HGY] at this; omega))
          clear hgx hx hgy hy e2
          go_wp2_with fail
          go_ret
          exact ⟨by rw [unhide HF]; rfl, rfl⟩
        · have HNX := hide (show ∀ j, j < k + 1 + 1 → PlAt cnt ls j from fun j hj => by
            by_cases q : j < k + 1
            · exact unhide HV j q
            · obtain rfl : j = k + 1 := by omega
              exact ⟨by rw [unhide HGX]; omega, fun _ => by rw [unhide HGX, show k + 1 - 1 = k from rfl, unhide HGY]; omega⟩)
          clear hgx hx hgy hy e2 HV
          go_wp2_with fail
          go_roundw
          case rel => exact ⟨k + 1 + 1, by go_num, by omega, HNX, by first | rfl | trivial⟩
          case measure => simp [intOf]; omega
    · obtain rfl : k = n := by omega
      have HF := hide (show R = true from by rw [← unhide HR]; exact plB_yes (fun j hj => unhide HV j (by rw [unhide HN] at hj; exact hj)))
      go_wp2_with fail
      go_ret
      exact ⟨by rw [unhide HF]; rfl, rfl⟩

namespace Plain
def opAt (ops : List Dop) (p : Int) : Dop := ops.getD p.toNat ⟨0, ⟨#[]⟩, ⟨#[]⟩, ⟨#[]⟩⟩
def kc0 (ops : List Dop) (ks : List Int) : List Chg := ks.map fun p => .op (opAt ops p)
def tornC (t : Int) (o : Dop) : Chg := if o.kind = 1 ∧ t < (o.data.size : Int) then .tear o.name o.data t.toNat else .op o
/-- The changes of the ops that are kept, the last one torn. -/
def kcs (ops : List Dop) (ks : List Int) (t : Int) : List Chg := (kc0 ops ks).set (ks.length - 1) (tornC t (opAt ops (ks.getD (ks.length - 1) 0)))
theorem opAt_at (ops : List Dop) (P : Nat) (h : P < ops.length) : opAt ops (P : Int) = ops[P] := by unfold opAt; rw [Int.toNat_natCast, List.getD_eq_getElem?_getD, List.getElem?_eq_getElem h]; rfl
theorem chV_form {o : Dop} (h : formB o = true) : ∃ T U, chV o = .iface T U := by
  unfold formB at h
  simp only [Bool.and_eq_true, decide_eq_true_eq] at h
  obtain ⟨⟨⟨k1, k2⟩, hn⟩, ht⟩ := h
  unfold chV
  rw [if_pos hn]
  by_cases e1 : o.kind = 1
  · exact ⟨_, _, if_pos e1⟩
  · by_cases e2 : o.kind = 2
    · exact ⟨_, _, by rw [if_neg e1, if_pos e2]⟩
    · exact ⟨_, _, by rw [if_neg e1, if_neg e2, if_pos (by omega)]⟩
theorem kc0_take (ops : List Dop) (ks : List Int) (k : Nat) (h : k < ks.length) : (kc0 ops ks).take (k + 1) = (kc0 ops ks).take k ++ [.op (opAt ops ks[k])] := by
  rw [List.take_succ_eq_append_getElem (by simpa [kc0] using h)]
  simp [kc0]
end Plain

/-- What keptChanges leaves. -/
def KeptPost (cs : List Chg) (n : Nat) (w : World) (e : Ending) (w' : World) : Prop := ∃ a c, e = .returned (.slice a n c) ∧ RowAt chgE w' a cs ∧ (∀ g, inB a g → w.heap.size ≤ g) ∧ Below w.heap.size w w'

set_option maxRecDepth 10000 in
set_option maxHeartbeats 4000000 in
theorem keptChanges_calls (a1 : Option Addr) (nO cO : Nat) (ops : List Dop) (a2 : Option Addr) (n c : Nat) (ks : List Int) (t : Nat) (w : World) (hO : ops.length = nO) (hO2 : nO ≤ 200) (hn : ks.length = n) (hpl : PlOk nO ks) (hn2 : n ≤ 200) (hform : ∀ o ∈ ops, formB o = true ∧ SmO o) (h1 : RowAt dopE w a1 ops) (h2 : RowAt i64E w a2 ks) :
    Calls Try.prog 29 #[.slice a1 nO cO, .slice a2 n c, .int .i64 t] w (KeptPost (kcs ops ks t) n w) := by
  have H1 := hide (fun (W : World) (hW : Below w.heap.size w W) => h1.below hW)
  have H2 := hide (fun (W : World) (hW : Below w.heap.size w W) => h2.below hW)
  have HN := hide hn
  have HO := hide hO
  have HPL := hide hpl
  have HFM := hide hform
  have HE := hide (show OwnR chgE w w.heap.size (.slice none 0 0) ((kc0 ops ks).take 0) from World.ownsRow_nil _ _ _ _)
  clear h1 h2 hn hO hpl hform
  go_enter Try.func29, Try.ntmps29
  go_wp2_with fail
  go_loopw [7, 17] (fun s i wr => ∃ (k : Nat) (a : Option Addr) (c' : Nat), s = .slice a k c' ∧ i = .int .i64 k ∧ k ≤ n ∧ Hid (OwnR chgE wr w.heap.size (.slice a k c') ((kc0 ops ks).take k)) ∧ Hid (Below w.heap.size w wr)) (fun _ i _ => n - (intOf i).toNat)
  case atStart => exact ⟨0, none, 0, rfl, rfl, by omega, HE, hide (Below.refl _ _)⟩
  case round =>
    clear HE
    obtain ⟨k, a, c', rfl, rfl, hk, HW, HB⟩ := hrel
    by_cases hkn : k < n
    · have hkl : k < ks.length := by rw [unhide HN]; exact hkn
      obtain ⟨g2, e2, l2, p0, -⟩ := (unhide H2 _ (unhide HB)).ix k hkl
      have hpa := (unhide HPL k hkl).1
      have hst := kc0_take ops ks k hkl
      rw [getD_at ks k hkl] at hpa
      obtain ⟨x, hx⟩ : ∃ x, ks[k] = x := ⟨_, rfl⟩
      rw [hx] at p0 hpa hst
      obtain ⟨P, rfl⟩ := Int.eq_ofNat_of_zero_le hpa.1
      have hPl : P < ops.length := by rw [unhide HO]; have := hpa.2; omega
      rw [opAt_at ops P hPl] at hst
      obtain ⟨g1, e1, l1, r0, r1, r2, r3⟩ := (unhide H1 _ (unhide HB)).dop P hPl
      have hfm := unhide HFM ops[P] (by simp)
      obtain ⟨o, ho⟩ : ∃ o, ops[P] = o := ⟨_, rfl⟩
      rw [ho] at hst r0 r1 r2 r3 hfm
      have HCH := hide (fun W => changeOf_calls o W hfm.2.fit)
      obtain ⟨T, U, hV⟩ := chV_form hfm.1
      obtain ⟨kd, nm, tx, dt⟩ := o
      have hDV : dopV ⟨kd, nm, tx, dt⟩ = .agg #[.int .i64 kd, .string nm, .string tx, .string dt] := rfl
      rw [hDV, hV] at HCH
      simp only at r0 r1 r2 r3
      have hlen : ((kc0 ops ks).take k).length < 100000000 := by rw [List.length_take]; have := unhide HN; omega
      have hlk : ((kc0 ops ks).take k).length = k := by rw [List.length_take]; simp [kc0, unhide HN]; omega
      have HST := hide hst
      generalize (kc0 ops ks).take k = cur at HW hlen HST hlk
      have HLK := hide hlk
      subst e1 e2
      have i0 : (0 : Int) ≤ (k : Int) := by omega
      have i1 : (k : Int) < (n : Int) := by omega
      have i2 : (0 : Int) ≤ (P : Int) := by omega
      have i3 : (P : Int) < (nO : Int) := hpa.2
      have hz := (unhide HB).size
      clear hpa hx hst hPl hfm ho hDV hlk hkl
      go_wp2_with fail
      refine (unhide HCH _).mono ?_
      rintro e w1 ⟨rfl, hb1⟩
      have HW1 := hide ((unhide HW).keep hb1)
      have HB1 := hide (belOn (unhide HB) hb1)
      have hz1 := Nat.le_trans hz hb1.size
      rw [show (Value.slice a k c') = .slice a cur.length c' from by rw [unhide HLK]] at HW1
      clear hb1
      have hen : chgE.enc (.op ⟨kd, nm, tx, dt⟩) = [.iface T U] := by show [chV _] = _; rw [hV]
      go_wp2_with (at_builtin; go_must (refine appR (e := chgE) rfl _ _ rfl (unhide HW1) (by rw [unhide HLK]; rfl) (.op ⟨kd, nm, tx, dt⟩) hen.symm _ rfl rfl hlen hz1 ?_); intro v' w6 hown6 hb6 hg6; obtain ⟨a3, c3, hv'⟩ := hown6.form; subst hv')
      rw [List.length_append, List.length_singleton, unhide HLK] at hown6
      have HW6 := hide hown6
      have HB6 := hide ((unhide HB1).trans hb6)
      clear hown6 hb6 hg6
      simp only [unhide HLK]
      go_wp2_with fail
      go_roundw
      case rel => exact ⟨k + 1, a3, c3, rfl, by go_num, by omega, by rw [unhide HST]; exact HW6, HB6⟩
      case measure => simp [intOf]; omega
    · obtain rfl : k = n := by omega
      have hcur : (kc0 ops ks).length = k := by simp [kc0, unhide HN]
      have hW := unhide HW
      rw [List.take_of_length_le (by omega)] at hW
      have HWF := hide hW
      clear HW hW
      rcases Nat.eq_zero_or_pos k with hk0 | hk0
      · subst hk0
        have hks : ks = [] := List.eq_nil_of_length_eq_zero (unhide HN)
        have HKN := hide (show kcs ops ks t = [] from by rw [hks]; rfl)
        clear hks
        go_wp2_with fail
        go_ret
        exact ⟨none, 0, rfl, (by rw [unhide HKN]; exact fun i hi => (by simp at hi)), (fun g ⟨o, e⟩ => (by cases e)), unhide HB⟩
      · obtain ⟨m, rfl⟩ : ∃ m, k = m + 1 := ⟨k - 1, by omega⟩
        have hml : m < ks.length := by rw [unhide HN]; omega
        have hpa := (unhide HPL m hml).1
        have hgm := getD_at ks m hml
        rw [hgm] at hpa
        obtain ⟨x, hx⟩ : ∃ x, ks[m] = x := ⟨_, rfl⟩
        rw [hx] at hpa hgm
        obtain ⟨P, rfl⟩ := Int.eq_ofNat_of_zero_le hpa.1
        have hPl : P < ops.length := by rw [unhide HO]; have := hpa.2; omega
        have hoa := opAt_at ops P hPl
        have hfm := unhide HFM ops[P] (by simp)
        obtain ⟨o, ho⟩ : ∃ o, ops[P] = o := ⟨_, rfl⟩
        rw [ho] at hoa hfm
        have hcm : (kc0 ops ks)[m]'(by rw [hcur]; omega) = .op o := by simp [kc0, hx, hoa]
        have HKC := hide (show kcs ops ks t = (kc0 ops ks).set m (tornC t o) from by
          unfold kcs
          rw [unhide HN, show m + 1 - 1 = m from rfl, hgm, hoa])
        obtain ⟨g, e1, l1, p0⟩ := (unhide HWF).at.chg m (by rw [hcur]; omega)
        obtain ⟨g', e1', l1', z⟩ := (unhide HWF).at m (by rw [hcur]; omega)
        have hgg : g = g' := by rw [e1] at e1'; simpa using e1'
        subst hgg
        have z0 : wr.frozen? ⟨g, m, none⟩ = false := by have := (z 0 (by decide)).2; rw [show m * chgE.n + 0 = m from Nat.mul_one m] at this; exact this
        rw [hcm] at p0
        have p0' : wr.cell? ⟨g, m, none⟩ = some (chV o) := p0
        have hset : (kc0 ops ks).set m (.op o) = kc0 ops ks := by rw [← hcm]; exact List.set_getElem_self _
        subst e1
        have hne0 : ((m + 1 : Nat) : Int) - 1 = (m : Int) := by omega
        have i0 : (0 : Int) ≤ (m : Int) := by omega
        have i1 : (m : Int) < ((m + 1 : Nat) : Int) := by omega
        have hnz : (((m + 1 : Nat) : Int) == 0) = false := by rw [beq_eq_false_iff_ne]; omega
        have hg0 := (World.ownsRow.lt (unhide HWF) g rfl).1
        have HBL := hide (show ∀ g', inB (some ⟨g, 0, none⟩) g' → w.heap.size ≤ g' from fun g' ⟨o, e⟩ => by cases e; exact hg0)
        have hz := (unhide HB).size
        obtain ⟨kd, nm, tx, dt⟩ := o
        have hfo := hfm.1
        unfold formB at hfo
        simp only [Bool.and_eq_true, decide_eq_true_eq] at hfo
        obtain ⟨⟨⟨k1, k2⟩, hnn⟩, -⟩ := hfo
        unfold chV at p0'
        simp only [hnn, if_true] at p0'
        clear p0 z e1' l1' hpa hx hPl hoa hfm ho hgm HPL HFM
        by_cases e1 : kd = 1
        · rw [if_pos e1] at p0'
          subst e1
          have hta := ta_app nm dt
          by_cases ht : (t : Int) < (dt.size : Int)
          · have htn : t ≤ dt.size := by omega
            have HTC := hide (show tornC t ⟨1, nm, tx, dt⟩ = .tear nm dt t from by unfold tornC; rw [if_pos ⟨rfl, ht⟩]; rfl)
            have S2 := (unhide HWF).setJ hcur m (by rw [hcur]; omega) 0 (by decide) (.iface 98 (.agg #[.string nm, .string dt, .int .i64 t])) (.tear nm dt t) rfl
            rw [show m * chgE.n + 0 = m from Nat.mul_one m] at S2
            have HS2 := hide S2
            have y0 := bcl (bel1 wr (.cells #[.string nm, .string dt] 95)) l1 p0'
            have z2 := ((bel1 wr (.cells #[.string nm, .string dt] 95)).frozen (p := ⟨g, m, none⟩) l1).trans z0
            clear S2 hset
            go_wp2_with fail
            go_ret
            refine ⟨some ⟨g, 0, none⟩, c', rfl, ?_, unhide HBL, ?_⟩
            · rw [unhide HKC, unhide HTC]
              exact ((unhide HS2).keep (bel1 _ _)).at
            · exact belOn ((unhide HB).setCell hg0 _) (bel1 _ _)
          · have HSAME := hide (show kcs ops ks t = kc0 ops ks from by rw [unhide HKC, show tornC t ⟨1, nm, tx, dt⟩ = .op ⟨1, nm, tx, dt⟩ from by unfold tornC; rw [if_neg (fun q => ht q.2)], hset])
            clear hset
            go_wp2_with fail
            go_ret
            exact ⟨some ⟨g, 0, none⟩, c', rfl, by rw [unhide HSAME]; exact ((unhide HWF).keep (bel1 _ _)).at, unhide HBL, belOn (unhide HB) (bel1 _ _)⟩
        · have HSAME := hide (show kcs ops ks t = kc0 ops ks from by rw [unhide HKC, show tornC t ⟨kd, nm, tx, dt⟩ = .op ⟨kd, nm, tx, dt⟩ from by unfold tornC; rw [if_neg (fun q => e1 q.1)], hset])
          rw [if_neg e1] at p0'
          by_cases e2 : kd = 2
          · rw [if_pos e2] at p0'
            have hta := ta_ren1 nm tx
            clear hset
            go_wp2_with fail
            go_ret
            exact ⟨some ⟨g, 0, none⟩, c', rfl, by rw [unhide HSAME]; exact ((unhide HWF).keep (bel1 _ _)).at, unhide HBL, belOn (unhide HB) (bel1 _ _)⟩
          · rw [if_neg e2, if_pos (by omega)] at p0'
            have hta := ta_rem1 nm
            clear hset
            go_wp2_with fail
            go_ret
            exact ⟨some ⟨g, 0, none⟩, c', rfl, by rw [unhide HSAME]; exact ((unhide HWF).keep (bel1 _ _)).at, unhide HBL, belOn (unhide HB) (bel1 _ _)⟩
end Go.Proofs.Ytiligddjilcdhaa


/- What a loss of power leaves: the mathematics. -/
namespace Go.Proofs.Ytiligddjilcdhaa
open Go.RowKit Go.Maps Plain
set_option linter.unusedVariables false

namespace Plain
theorem do_len (fs : List Fl) (o : Dop) : (doF fs o).1.length ≤ fs.length + 1 := by
  have hp : ∀ (l : List Fl) n d, (putF l n d).length ≤ l.length + 1 := fun l n d => by
    have := putG_len n d l false
    unfold putF
    simpa using this
  have hc : ∀ n, (cutF n fs).length ≤ fs.length := fun n => by rw [cutF_eq]; exact List.length_filter_le _ _
  unfold doF
  split
  · exact hp _ _ _
  · split
    · show fs.length ≤ _; omega
    · show (if o.kind = 2 then _ else _ : List Fl).length ≤ _
      split
      · have h1 := hp (cutF o.name fs) o.to (fs.getD (by assumption) (⟨#[]⟩, ⟨#[]⟩)).2
        have h2 := hc o.name
        omega
      · have h2 := hc o.name
        omega
theorem run_form : ∀ (ops : List Dop) (fs : List Fl) (r : List Fl), runF fs ops = some r → ∀ o ∈ ops, formB o = true := by
  intro ops
  induction ops with
  | nil => intro fs r _ o ho; simp at ho
  | cons a t ih =>
    intro fs r h o ho
    rw [runF] at h
    split at h
    · rename_i hc
      simp only [Bool.and_eq_true] at hc
      rcases List.mem_cons.1 ho with rfl | ho
      · exact hc.2.1
      · exact ih _ r h o ho
    · cases h
theorem disk_parts {live safe : List Fl} {ops : List Dop} (h : diskB live safe ops = true) : filesB safe = true ∧ ops.length ≤ 200 ∧ ∀ o ∈ ops, formB o = true := by
  unfold diskB at h
  simp only [Bool.and_eq_true, decide_eq_true_eq] at h
  obtain ⟨h1, h2, h3, h4⟩ := h
  refine ⟨h2, h3, ?_⟩
  split at h4
  · cases h4
  · rename_i now hr
    exact run_form ops safe now hr
theorem pl_ge {cnt : Int} {ls : List Int} (h : PlOk cnt ls) : ∀ k, k < ls.length → (k : Int) ≤ ls.getD k 0 := by
  intro k
  induction k with
  | zero => intro hk; exact (h 0 hk).1.1
  | succ k ih =>
    intro hk
    have h1 := (h (k + 1) hk).2 (by omega)
    have h2 := ih (by omega)
    rw [show k + 1 - 1 = k from rfl] at h1
    omega
theorem pl_len {cnt : Nat} {ls : List Int} (h : PlOk cnt ls) : ls.length ≤ cnt := by
  rcases Nat.eq_zero_or_pos ls.length with h0 | h0
  · omega
  · have h1 := pl_ge h (ls.length - 1) (by omega)
    have h2 := (h (ls.length - 1) (by omega)).1.2
    omega
/-- The names of a change are right. -/
def ChgNm : Chg → Prop
  | .op o => formB o = true
  | .tear n _ _ => nmB n = true
theorem names_chg {fs : List Fl} (h : ∀ f ∈ fs, nmB f.1 = true) {c : Chg} (hc : ChgNm c) : ∀ f ∈ (doF fs c.asOp).1, nmB f.1 = true := by
  cases c with
  | op o => exact names_do h o hc
  | tear n d k =>
    intro f hf
    unfold doF at hf
    rw [if_pos (show (Chg.tear n d k).asOp.kind = 1 from rfl)] at hf
    rcases (mem_put _ _ _ f).1 hf with rfl | hf
    · exact hc
    · exact h f hf.1
structure CrInv (fs : List Fl) (k : Nat) : Prop where
  ri : Risen fs
  nm : ∀ f ∈ fs, nmB f.1 = true
  ln : fs.length ≤ 60 + k
  bn : BndF (1000000 + k * 1000000000) fs
theorem cr_inv {fs : List Fl} (h : filesB fs = true) (cs : List Chg) (hok : ∀ x ∈ cs, ChgOk x) (hnm : ∀ x ∈ cs, ChgNm x) : ∀ k, k ≤ cs.length → CrInv (crF fs (cs.take k)) k := by
  intro k
  induction k with
  | zero =>
    intro _
    have h1 := (okF_none fs).1 (files_ok h).1
    have h2 := files_small h
    exact ⟨h1.2, h1.1, by show fs.length ≤ _; omega, fun f hf => by have := h2.2 f hf; omega⟩
  | succ k ih =>
    intro hk
    have hi := ih (by omega)
    rw [crF_take fs cs k (by omega)]
    have hm : cs[k] ∈ cs := List.getElem_mem _
    refine ⟨risen_do hi.ri _, names_chg hi.nm (hnm _ hm), ?_, ?_⟩
    · have := do_len (crF fs (cs.take k)) cs[k].asOp; have := hi.ln; omega
    · rw [show 1000000 + (k + 1) * 1000000000 = 1000000 + k * 1000000000 + 1000000000 from by omega]
      exact do_bnd hi.bn (hok _ hm).sm
theorem CrInv.files {fs : List Fl} {k : Nat} (h : CrInv fs k) : filesB fs = (decide (fs.length ≤ 60) && decide (sumF fs ≤ 200000)) := by
  have h3 : okF none fs = true := (okF_none _).2 ⟨h.nm, h.ri⟩
  unfold filesB
  rw [h3, Bool.true_and]
theorem kcs_len (ops : List Dop) (ks : List Int) (t : Int) : (kcs ops ks t).length = ks.length := by simp [kcs, kc0]
theorem opAt_mem (ops : List Dop) (ks : List Int) (hpl : PlOk ops.length ks) (p : Int) (hp : p ∈ ks) : opAt ops p ∈ ops := by
  obtain ⟨k, hk, rfl⟩ := List.getElem_of_mem hp
  have h := (hpl k hk).1
  rw [getD_at ks k hk] at h
  obtain ⟨P, hP⟩ := Int.eq_ofNat_of_zero_le h.1
  rw [hP, opAt_at ops P (by omega)]
  exact List.getElem_mem _
theorem kcs_all {ops : List Dop} {ks : List Int} {t : Nat} (hpl : PlOk ops.length ks) (hf : ∀ o ∈ ops, formB o = true ∧ SmO o) : ∀ x ∈ kcs ops ks t, ChgOk x ∧ ChgNm x := by
  have hop : ∀ o ∈ ops, ChgOk (.op o) ∧ ChgNm (.op o) := fun o ho => ⟨hf o ho, (hf o ho).1⟩
  intro x hx
  unfold kcs at hx
  rcases List.mem_or_eq_of_mem_set hx with hx | rfl
  · unfold kc0 at hx
    obtain ⟨p, hp, rfl⟩ := List.mem_map.1 hx
    exact hop _ (opAt_mem ops ks hpl p hp)
  · rcases Nat.eq_zero_or_pos ks.length with h0 | h0
    · have : ks = [] := List.eq_nil_of_length_eq_zero h0
      subst this
      simp [kc0] at hx
    · have hm := opAt_mem ops ks hpl (ks.getD (ks.length - 1) 0) (by rw [getD_at ks _ (by omega)]; exact List.getElem_mem _)
      have ho := hf _ hm
      unfold tornC
      split
      · rename_i hc
        have hfo := ho.1
        unfold formB at hfo
        simp only [Bool.and_eq_true, decide_eq_true_eq] at hfo
        exact ⟨⟨ho.2.1, ho.2.2.2, by have := hc.2; omega⟩, hfo.1.2⟩
      · exact hop _ hm
theorem kcs_last {ops : List Dop} {ks : List Int} {t : Int} : ∀ i (hi : i < (kcs ops ks t).length), (∃ x y k, (kcs ops ks t)[i] = .tear x y k) → i + 1 = (kcs ops ks t).length := by
  intro i hi ⟨x, y, k, h⟩
  have h2 : (kcs ops ks t)[i]? = some (.tear x y k) := by rw [List.getElem?_eq_getElem hi, h]
  rw [kcs_len] at hi ⊢
  clear h
  unfold kcs at h2
  by_cases he : ks.length - 1 = i
  · omega
  · rw [List.getElem?_set_ne he] at h2
    simp [kc0] at h2
end Plain
end Go.Proofs.Ytiligddjilcdhaa


/- A loss of power, by the program. -/
namespace Go.Proofs.Ytiligddjilcdhaa
open Go.RowKit Go.Maps Plain
set_option linter.unusedVariables false

namespace Plain
noncomputable def crOk (live safe : List Fl) (ops : List Dop) (ks : List Int) (t : Int) : Bool := (diskB live safe ops && (plB ops.length ks && decide (0 ≤ t))) && filesB (crF safe (kcs ops ks t))
noncomputable def crL (live safe : List Fl) (ops : List Dop) (ks : List Int) (t : Int) : List Fl := if crOk live safe ops ks t then crF safe (kcs ops ks t) else []
end Plain

set_option maxRecDepth 10000 in
set_option maxHeartbeats 8000000 in
theorem impl_Crash (aL : Option Addr) (nL cL : Nat) (live : List Fl) (aS : Option Addr) (nS cS : Nat) (safe : List Fl) (aO : Option Addr) (nO cO : Nat) (ops : List Dop) (ak : Option Addr) (nk ck : Nat) (ks : List Int) (t : Int) (w : World) (h : DiskAt w aL nL cL live aS nS cS safe aO nO cO ops) (hk : ks.length = nk) (hk2 : nk ≤ 1048576) (hkr : RowAt i64E w ak ks) :
    Calls Try.prog 9 #[.agg #[.slice aL nL cL, .slice aS nS cS, .slice aO nO cO], .slice ak nk ck, .int .i64 t] w (DskPost (fun v => .tuple #[v, .bool (crOk live safe ops ks t)]) (crL live safe ops ks t) (crL live safe ops ks t) [] w) := by
  obtain ⟨Wa, hWa⟩ : ∃ Wa, Wa = w.alloc (.cells #[.slice aL nL cL, .slice aS nS cS, .slice aO nO cO] 31) := ⟨_, rfl⟩
  obtain ⟨W0, hW0⟩ : ∃ W0, W0 = Wa.alloc (.cells #[.slice none 0 0, .slice none 0 0, .slice none 0 0] 31) := ⟨_, rfl⟩
  have hba : Below w.heap.size w Wa := by rw [hWa]; exact bel1 _ _
  have hsa : Wa.heap.size = w.heap.size + 1 := by rw [hWa]; simp
  have hs0 : W0.heap.size = w.heap.size + 2 := by rw [hW0]; simp [hsa]
  have hb0 : Below Wa.heap.size Wa W0 := by rw [hW0]; exact bel1 _ _
  have c0 : W0.cell? ⟨w.heap.size, 0, none⟩ = some (.slice aL nL cL) := bcl hb0 (by omega) (by rw [hWa]; simp [go_sem])
  have c1 : W0.cell? ⟨w.heap.size, 1, none⟩ = some (.slice aS nS cS) := bcl hb0 (by omega) (by rw [hWa]; simp [go_sem])
  have c2 : W0.cell? ⟨w.heap.size, 2, none⟩ = some (.slice aO nO cO) := bcl hb0 (by omega) (by rw [hWa]; simp [go_sem])
  have hr : ∀ i, i < 3 → W0.cell? ⟨w.heap.size + 1, i, none⟩ = some (.slice none 0 0) ∧ W0.frozen? ⟨w.heap.size + 1, i, none⟩ = false := by
    intro i hi
    rw [hW0, ← hsa]
    rcases i with _ | _ | _ | i
    all_goals first | omega | simp [go_sem]
  have HC := hide (fun (W : World) (hW : Below W0.heap.size W0 W) => And.intro (bcl hW (show w.heap.size < W0.heap.size by omega) c0) (And.intro (bcl hW (show w.heap.size < W0.heap.size by omega) c1) (bcl hW (show w.heap.size < W0.heap.size by omega) c2)))
  have HR := hide (fun (W : World) (hW : Below W0.heap.size W0 W) (i : Nat) (hi : i < 3) => And.intro (bcl hW (show w.heap.size + 1 < W0.heap.size by omega) (hr i hi).1) ((hW.frozen (p := ⟨w.heap.size + 1, i, none⟩) (show w.heap.size + 1 < W0.heap.size by omega)).trans (hr i hi).2))
  have HFIN := hide (fun (W : World) (hW : Below W0.heap.size W0 W) => belOn (belOn hba hb0) hW)
  have HD := hide (fun (W : World) (hW : Below W0.heap.size W0 W) => (h.below (belOn hba hb0)).below hW)
  have HKR := hide (fun (W : World) (hW : Below W0.heap.size W0 W) => hkr.below (belOn (belOn hba hb0) hW))
  have HW0 := hide (show (w.alloc (.cells #[.slice aL nL cL, .slice aS nS cS, .slice aO nO cO] 31)).alloc (.cells #[.slice none 0 0, .slice none 0 0, .slice none 0 0] 31) = W0 from by rw [hW0, hWa])
  have HS0 := hide hs0
  have HOK := hide (impl_DiskOk aL nL cL live aS nS cS safe aO nO cO ops W0 (unhide HD _ (Below.refl _ _)))
  have HPL := hide (fun (W : World) (hW : Below W0.heap.size W0 W) => placesOk_calls ak nk ck ks nO W hk hk2 (unhide HKR W hW))
  have hlo := h.lo
  have hls := h.ls
  have HFO := hide h.fo
  have HNO := hide (show crOk live safe ops ks t = false → DskPost (fun v => .tuple #[v, .bool (crOk live safe ops ks t)]) (crL live safe ops ks t) (crL live safe ops ks t) [] w = DskPost (fun v => .tuple #[v, .bool false]) [] [] [] w from fun q => by unfold crL; rw [q]; rfl)
  have HYES := hide (show crOk live safe ops ks t = true → DskPost (fun v => .tuple #[v, .bool (crOk live safe ops ks t)]) (crL live safe ops ks t) (crL live safe ops ks t) [] w = DskPost (fun v => .tuple #[v, .bool true]) (crF safe (kcs ops ks t)) (crF safe (kcs ops ks t)) [] w from fun q => by unfold crL; rw [q]; rfl)
  have hcr : crOk live safe ops ks t = ((diskB live safe ops && (plB nO ks && decide (0 ≤ t))) && filesB (crF safe (kcs ops ks t))) := by unfold crOk; rw [hlo]
  cases hd : diskB live safe ops with
  | false =>
    rw [unhide HNO (by rw [hcr, hd]; rfl)]
    rw [hd] at HOK
    clear hba hb0 hWa hW0 hr h hsa hs0 hkr hcr hd
    go_enter Try.func9, Try.ntmps9
    go_wp2_with fail
    rw [unhide HW0]
    refine (unhide HOK).mono ?_
    rintro e w1 ⟨rfl, hb1⟩
    have HBF := hide hb1
    clear hb1 c0 c1 c2
    obtain ⟨r0, z0⟩ := unhide HR _ (unhide HBF) 0 (by decide)
    obtain ⟨r1, z1⟩ := unhide HR _ (unhide HBF) 1 (by decide)
    obtain ⟨r2, z2⟩ := unhide HR _ (unhide HBF) 2 (by decide)
    go_wp2_with fail
    refine bodyPost_ret (v := .tuple #[.agg #[.slice none 0 0, .slice none 0 0, .slice none 0 0], .bool false]) (by simp [results, Try.results9, go_sem, r0, r1, r2]) rfl ?_
    have hs0 := unhide HS0
    have hzf := (unhide HBF).size
    exact dskRet (live := []) (safe := []) (ops := []) (rb := w.heap.size + 1) (B := w.heap.size + 2) (World.ownsRow_nil _ _ _ _) (World.ownsRow_nil _ _ _ _) (World.ownsRow_nil _ _ _ _) apartNil2 (by omega) (by omega) (unhide HFIN _ (unhide HBF))
  | true =>
    rw [hd] at HOK
    obtain ⟨hfs, hO2, hfo⟩ := disk_parts hd
    cases hp : plB nO ks with
    | false =>
      rw [unhide HNO (by rw [hcr, hd, hp]; rfl)]
      rw [hp] at HPL
      clear hba hb0 hWa hW0 hr h hsa hs0 hkr hcr hd hp
      go_enter Try.func9, Try.ntmps9
      go_wp2_with fail
      rw [unhide HW0]
      refine (unhide HOK).mono ?_
      rintro e w1 ⟨rfl, hb1⟩
      have HB1 := hide hb1
      obtain ⟨q0, q1, q2⟩ := unhide HC _ hb1
      clear hb1 c0 c1 c2
      go_wp2_with fail
      refine (unhide HPL _ (unhide HB1)).mono ?_
      rintro e w2 ⟨rfl, rfl⟩
      have HBF := hide (unhide HB1)
      obtain ⟨r0, z0⟩ := unhide HR _ (unhide HBF) 0 (by decide)
      obtain ⟨r1, z1⟩ := unhide HR _ (unhide HBF) 1 (by decide)
      obtain ⟨r2, z2⟩ := unhide HR _ (unhide HBF) 2 (by decide)
      go_wp2_with fail
      refine bodyPost_ret (v := .tuple #[.agg #[.slice none 0 0, .slice none 0 0, .slice none 0 0], .bool false]) (by simp [results, Try.results9, go_sem, r0, r1, r2]) rfl ?_
      have hs0 := unhide HS0
      have hzf := (unhide HBF).size
      exact dskRet (live := []) (safe := []) (ops := []) (rb := w.heap.size + 1) (B := w.heap.size + 2) (World.ownsRow_nil _ _ _ _) (World.ownsRow_nil _ _ _ _) (World.ownsRow_nil _ _ _ _) apartNil2 (by omega) (by omega) (unhide HFIN _ (unhide HBF))
    | true =>
      rw [hp] at HPL
      by_cases ht : t < 0
      · rw [unhide HNO (by rw [hcr, hd, hp, show decide (0 ≤ t) = false from by simp; omega]; rfl)]
        clear hba hb0 hWa hW0 hr h hsa hs0 hkr hcr hd hp
        go_enter Try.func9, Try.ntmps9
        go_wp2_with fail
        rw [unhide HW0]
        refine (unhide HOK).mono ?_
        rintro e w1 ⟨rfl, hb1⟩
        have HB1 := hide hb1
        obtain ⟨q0, q1, q2⟩ := unhide HC _ hb1
        clear hb1 c0 c1 c2
        go_wp2_with fail
        refine (unhide HPL _ (unhide HB1)).mono ?_
        rintro e w2 ⟨rfl, rfl⟩
        have HBF := hide (unhide HB1)
        obtain ⟨r0, z0⟩ := unhide HR _ (unhide HBF) 0 (by decide)
        obtain ⟨r1, z1⟩ := unhide HR _ (unhide HBF) 1 (by decide)
        obtain ⟨r2, z2⟩ := unhide HR _ (unhide HBF) 2 (by decide)
        go_wp2_with fail
        refine bodyPost_ret (v := .tuple #[.agg #[.slice none 0 0, .slice none 0 0, .slice none 0 0], .bool false]) (by simp [results, Try.results9, go_sem, r0, r1, r2]) rfl ?_
        have hs0 := unhide HS0
        have hzf := (unhide HBF).size
        exact dskRet (live := []) (safe := []) (ops := []) (rb := w.heap.size + 1) (B := w.heap.size + 2) (World.ownsRow_nil _ _ _ _) (World.ownsRow_nil _ _ _ _) (World.ownsRow_nil _ _ _ _) apartNil2 (by omega) (by omega) (unhide HFIN _ (unhide HBF))
      · obtain ⟨T, rfl⟩ := Int.eq_ofNat_of_zero_le (show 0 ≤ t by omega)
        have hplo := plB_ok hp
        rw [← hlo] at hplo
        have hkl := pl_len hplo
        have hform : ∀ o ∈ ops, formB o = true ∧ SmO o := fun o ho => ⟨hfo o ho, unhide HFO o ho⟩
        have hall := kcs_all (t := T) hplo hform
        have hklen := kcs_len ops ks (T : Int)
        have hinv := cr_inv hfs (kcs ops ks T) (fun x hx => (hall x hx).1) (fun x hx => (hall x hx).2) _ (Nat.le_refl _)
        rw [List.take_of_length_le (Nat.le_refl _)] at hinv
        have hfb := hinv.files
        have hbs : BndF 1000000 safe := fun f hf => by have := (files_small hfs).2 f hf; omega
        have hrs := (files_ok hfs).2
        have hsl := (files_small hfs).1
        have HTA := hide (fun (W : World) (hW : Below W0.heap.size W0 W) => tableOf_calls aS nS cS safe W hls (by omega) (small_fit hfs) (unhide HD W hW).rs)
        have HKE := hide (fun (W : World) (hW : Below W0.heap.size W0 W) => keptChanges_calls aO nO cO ops ak nk ck ks T W hlo (by omega) hk (by rw [hlo] at hplo; exact hplo) (by omega) hform (unhide HD W hW).ro (unhide HKR W hW))
        have HUN := hide (fun (W : World) (b m : Nat) (a : Option Addr) (c : Nat) (hT : Tab W b m (tabF safe)) (hm : m ≤ 1000) (hrow : RowAt chgE W a (kcs ops ks T)) (hne : ¬ inB a b) => until_calls b m safe a nk c (kcs ops ks T) W hT hrs hm hbs (by rw [hklen, hk]) (by omega) hrow hne (fun x hx => (hall x hx).1) kcs_last)
        have hlf : (crF safe (kcs ops ks T)).length ≤ 300 := by have := hinv.ln; rw [hklen] at this; omega
        have hfit : FitF (crF safe (kcs ops ks T)) := hinv.bn.fit (by rw [hklen]; omega)
        have hsum := sumF_le hfit
        have HTF := hide (fun (W : World) (b m : Nat) (hT : Tab W b m (tabF (crF safe (kcs ops ks T)))) => tooFull_calls b m _ W hT hinv.ri.names (by omega) (by omega))
        have HLI := hide (fun (W : World) (b m : Nat) (hT : Tab W b m (tabF (crF safe (kcs ops ks T)))) => list_calls b m _ W hT hinv.ri (by omega) hfit)
        rw [← hfb] at HTF
        obtain ⟨F, hF⟩ : ∃ F, crF safe (kcs ops ks T) = F := ⟨_, rfl⟩
        unfold UntilPost at HUN
        rw [hF] at HTF HLI HYES hcr HUN
        unfold KeptPost at HKE
        have hn1000 : nS ≤ 1000 := by omega
        cases hff : filesB F with
        | false =>
          rw [unhide HNO (by rw [hcr, hff, Bool.and_false])]
          rw [hff] at HTF
          clear hba hb0 hWa hW0 hr h hsa hs0 hkr hcr hd hp hff hF hplo hkl hform hall hklen hinv hfb hbs hrs hsl hlf hfit hsum hfs hO2 hfo hlo hls HNO HYES HFO
          go_enter Try.func9, Try.ntmps9
          go_wp2_with fail
          rw [unhide HW0]
          refine (unhide HOK).mono ?_
          rintro e w1 ⟨rfl, hb1⟩
          have HB1 := hide hb1
          obtain ⟨q0, q1, q2⟩ := unhide HC _ hb1
          clear hb1 c0 c1 c2
          go_wp2_with fail
          refine (unhide HPL _ (unhide HB1)).mono ?_
          rintro e w2 ⟨rfl, rfl⟩
          go_wp2_with fail
          refine (unhide HTA _ (unhide HB1)).mono ?_
          rintro e w3 ⟨b, m, rfl, hbb, hmm, hT, hb3⟩
          have HB3 := hide (belOn (unhide HB1) hb3)
          have HT3 := hide (unhide hT)
          have hbl := (unhide hT).lt
          clear q0 q1 q2
          obtain ⟨q0, q1, q2⟩ := unhide HC _ (unhide HB3)
          have hz1 := (unhide HB1).size
          clear hb3 hT
          go_wp2_with fail
          refine (unhide HKE _ (unhide HB3)).mono ?_
          rintro e w4 ⟨ac, cc, rfl, hrow, hbk, hb4⟩
          have HB4 := hide (belOn (unhide HB3) hb4)
          have HU := hide (unhide HUN w4 b m ac cc ((unhide HT3).below hb4 hbl) (by omega) hrow (fun q => by have := hbk b q; omega))
          clear hb4 hrow hbk q0 q1 q2
          go_wp2_with fail
          refine (unhide HU).mono ?_
          rintro e w5 ⟨rfl, hT5, ho5⟩
          have HT5 := hide (unhide hT5)
          have HB5 := hide ((unhide HB4).trans ((OnlyP.row (p := fun g => g = b) ho5 (fun g o e => by cases e; rfl)).below (B := W0.heap.size) (fun g hg => by subst hg; omega) (unhide HB4).size))
          clear hT5 ho5
          go_wp2_with fail
          refine (unhide HTF _ _ _ (unhide HT5)).mono ?_
          rintro e w6 ⟨rfl, hb6⟩
          have HBF := hide (belOn (unhide HB5) hb6)
          clear hb6
          obtain ⟨r0, z0⟩ := unhide HR _ (unhide HBF) 0 (by decide)
          obtain ⟨r1, z1⟩ := unhide HR _ (unhide HBF) 1 (by decide)
          obtain ⟨r2, z2⟩ := unhide HR _ (unhide HBF) 2 (by decide)
          go_wp2_with fail
          refine bodyPost_ret (v := .tuple #[.agg #[.slice none 0 0, .slice none 0 0, .slice none 0 0], .bool false]) (by simp [results, Try.results9, go_sem, r0, r1, r2]) rfl ?_
          have hs0 := unhide HS0
          have hzf := (unhide HBF).size
          exact dskRet (live := []) (safe := []) (ops := []) (rb := w.heap.size + 1) (B := w.heap.size + 2) (World.ownsRow_nil _ _ _ _) (World.ownsRow_nil _ _ _ _) (World.ownsRow_nil _ _ _ _) apartNil2 (by omega) (by omega) (unhide HFIN _ (unhide HBF))
        | true =>
          rw [unhide HYES (by rw [hcr, hd, hp, hff, show decide ((0 : Int) ≤ (T : Int)) = true from by simp]; rfl)]
          rw [hff] at HTF
          clear hba hb0 hWa hW0 hr h hsa hs0 hkr hcr hd hp hff hF hplo hkl hform hall hklen hinv hfb hbs hrs hsl hlf hfit hsum hfs hO2 hfo hlo hls HNO HYES HFO
          go_enter Try.func9, Try.ntmps9
          go_wp2_with fail
          rw [unhide HW0]
          refine (unhide HOK).mono ?_
          rintro e w1 ⟨rfl, hb1⟩
          have HB1 := hide hb1
          obtain ⟨q0, q1, q2⟩ := unhide HC _ hb1
          clear hb1 c0 c1 c2
          go_wp2_with fail
          refine (unhide HPL _ (unhide HB1)).mono ?_
          rintro e w2 ⟨rfl, rfl⟩
          go_wp2_with fail
          refine (unhide HTA _ (unhide HB1)).mono ?_
          rintro e w3 ⟨b, m, rfl, hbb, hmm, hT, hb3⟩
          have HB3 := hide (belOn (unhide HB1) hb3)
          have HT3 := hide (unhide hT)
          have hbl := (unhide hT).lt
          clear q0 q1 q2
          obtain ⟨q0, q1, q2⟩ := unhide HC _ (unhide HB3)
          have hz1 := (unhide HB1).size
          clear hb3 hT
          go_wp2_with fail
          refine (unhide HKE _ (unhide HB3)).mono ?_
          rintro e w4 ⟨ac, cc, rfl, hrow, hbk, hb4⟩
          have HB4 := hide (belOn (unhide HB3) hb4)
          have HU := hide (unhide HUN w4 b m ac cc ((unhide HT3).below hb4 hbl) (by omega) hrow (fun q => by have := hbk b q; omega))
          clear hb4 hrow hbk q0 q1 q2
          go_wp2_with fail
          refine (unhide HU).mono ?_
          rintro e w5 ⟨rfl, hT5, ho5⟩
          have HT5 := hide (unhide hT5)
          have HB5 := hide ((unhide HB4).trans ((OnlyP.row (p := fun g => g = b) ho5 (fun g o e => by cases e; rfl)).below (B := W0.heap.size) (fun g hg => by subst hg; omega) (unhide HB4).size))
          clear hT5 ho5
          go_wp2_with fail
          refine (unhide HTF _ _ _ (unhide HT5)).mono ?_
          rintro e w6 ⟨rfl, hb6⟩
          have HB6 := hide (belOn (unhide HB5) hb6)
          have HT6 := hide ((unhide HT5).below hb6 (unhide HT5).lt)
          clear hb6
          go_wp2_with fail
          refine (unhide HLI _ _ _ (unhide HT6)).mono ?_
          rintro e w7 ⟨v1, rfl, o1, hb7⟩
          obtain ⟨y1, j1, rfl⟩ := o1.form
          have HT7 := hide ((unhide HT6).below hb7 (unhide HT6).lt)
          have HO1 := hide o1
          have HB7 := hide (belOn (unhide HB6) hb7)
          have hz7 := hb7.size
          clear hb7 o1
          go_wp2_with fail
          refine (unhide HLI _ _ _ (unhide HT7)).mono ?_
          rintro e w8 ⟨v2, rfl, o2, hb8⟩
          obtain ⟨y2, j2, rfl⟩ := o2.form
          have HO2 := hide o2
          have HO8 := hide ((unhide HO1).keep hb8)
          have HB8 := hide (belOn (unhide HB7) hb8)
          obtain ⟨r0, z0⟩ := unhide HR _ (unhide HB8) 0 (by decide)
          obtain ⟨r1, z1⟩ := unhide HR _ (unhide HB8) 1 (by decide)
          obtain ⟨r2, z2⟩ := unhide HR _ (unhide HB8) 2 (by decide)
          clear hb8 o2
          go_wp2_with fail
          refine bodyPost_ret (v := .tuple #[.agg #[.slice y1 F.length j1, .slice y2 F.length j2, .slice none 0 0], .bool true]) (by simp [results, Try.results9, go_sem, r0, r1, r2]) rfl ?_
          have hs0 := unhide HS0
          have hzf := (unhide HB6).size
          exact dskRet (live := F) (safe := F) (ops := []) (rb := w.heap.size + 1) (B := w6.heap.size) (unhide HO8) ((unhide HO2).le hz7) (World.ownsRow_nil _ _ _ _) ⟨(fun g h1 h2 => (by have := ((unhide HO1).bl g h1).2; have := ((unhide HO2).bl g h2).1; omega)), (fun g h1 ⟨o, e⟩ => (by cases e)), (fun g h1 ⟨o, e⟩ => (by cases e))⟩ (by omega) (by omega) (unhide HFIN _ (unhide HB8))
end Go.Proofs.Ytiligddjilcdhaa

