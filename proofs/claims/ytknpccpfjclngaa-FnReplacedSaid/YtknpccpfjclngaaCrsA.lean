/- Power that goes: the deferred recover. -/
import Derived.Test.YtknpccpfjclngaaDskI
import Derived.Defers
import Derived.Recover
import Derived.Deep.RegionHeld3
namespace Go.Proofs.Ytknpccpfjclngaa
open Go.RowKit Go.Maps Plain
set_option linter.unusedVariables false

def Plain.lossE : PanicEntry := { v := .iface 88 (.agg #[]), recovered := false }
theorem ta_loss (w : World) : (Instr.typeAssert (.iface 88 (.agg #[])) 20 88 true).run Try.prog w = .ok (.tuple #[.agg #[], .bool true]) w := by kernel_rfl
theorem ta_nil (w : World) : (Instr.typeAssert .nilIface 20 88 true).run Try.prog w = .ok (.tuple #[.agg #[], .bool false]) w := by kernel_rfl
theorem eql_nil (w : World) : (binOp .eql 20 .nilIface .nilIface).run Try.prog w = .ok (.bool true) w := by kernel_rfl
theorem eql_loss (w : World) : (binOp .eql 20 (.iface 88 (.agg #[])) .nilIface).run Try.prog w = .ok (.bool false) w := by kernel_rfl

set_option maxRecDepth 10000 in
theorem catch_loss (w : World) :
    CallsD Try.prog 53 #[] (.panicking [lossE]) w fun e u' w' =>
      e = .returned (.tuple #[]) ∧ u' = .panicking [{ v := .iface 88 (.agg #[]), recovered := true }] ∧ w' = w := by
  refine callsD_of_wpS Try.func53 rfl fun c₀ cs hu => ?_
  apply wpS_seq
  apply wpS_region
  simp [wpOpsS, go_sem, recoverD, hu, lossE, Try.ntmps53, Exit.thenS]
  refine wpS_of_wp ?_
  have h1 := ta_loss
  have h2 := eql_loss
  go_wp2
  simp [bodyPostS, results, Try.results53]

set_option maxRecDepth 10000 in
theorem catch_none (w : World) :
    CallsD Try.prog 53 #[] .returning w fun e u' w' => e = .returned (.tuple #[]) ∧ u' = .returning ∧ w' = w := by
  refine callsD_of_wpS Try.func53 rfl fun c₀ cs hu => ?_
  apply wpS_seq
  apply wpS_region
  simp [wpOpsS, go_sem, recoverD, hu, Try.ntmps53, Exit.thenS]
  refine wpS_of_wp ?_
  have h1 := ta_nil
  have h2 := eql_nil
  go_wp2
  simp [bodyPostS, results, Try.results53]
  cases c₀
  simp_all

theorem meth_tear (n d : ByteArray) (k : Int) (w : World) : (method 247 93 (.agg #[.string n, .string d, .int .i64 k]) "loop.example/g00141/impl.file").run Try.prog w = .ok (104, .agg #[.string n, .string d]) w := by kernel_rfl
theorem ta_tear1 (n d : ByteArray) (k : Int) (w : World) : (Instr.typeAssert (.iface 93 (.agg #[.string n, .string d, .int .i64 k])) 68 90 true).run Try.prog w = .ok (.tuple #[.agg #[.string ⟨#[]⟩, .string ⟨#[]⟩], .bool false]) w := by kernel_rfl
theorem ta_tear2 (n d : ByteArray) (k : Int) (w : World) : (Instr.typeAssert (.iface 93 (.agg #[.string n, .string d, .int .i64 k])) 68 93 true).run Try.prog w = .ok (.tuple #[.agg #[.string n, .string d, .int .i64 k], .bool true]) w := by kernel_rfl
theorem Plain.strAddT {a b : ByteArray} (W : World) (h : a.size + b.size ≤ 9000000000000) : (Op.stringOp .add a b).run Try.prog W = .ok (.string (a ++ b)) W := by
  have h1 : ¬ ((a.size + b.size : Nat) : Int) > IntKind.i64.max := by rw [show IntKind.i64.max = 9223372036854775807 from rfl]; omega
  unfold Op.stringOp
  simp only [if_neg h1]
  rfl

set_option maxRecDepth 10000 in
set_option maxHeartbeats 4000000 in
theorem apply_tear (b m : Nat) (f : ByteArray → Option ByteArray) (n d : ByteArray) (k : Nat) (w : World) (h : Tab w b m f) (hm : m ≤ 1000000) (hn : n.size ≤ 1000000000000) (hd : d.size ≤ 1000000000000) (hk : k ≤ d.size) (hf : ∀ x y, f x = some y → y.size ≤ 1000000000000) :
    Calls Try.prog 36 #[.map (some b), .iface 93 (.agg #[.string n, .string d, .int .i64 k])] w fun e w' => e = .panicked [lossE] ∧ Hid (Tab w' b (m + 1) (updT f n (some ((f n).getD ⟨#[]⟩ ++ d.extract 0 k)))) ∧ OnlyRow (some ⟨b, 0, none⟩) w w' := by
  obtain ⟨old, hold⟩ : ∃ old, (f n).getD ⟨#[]⟩ = old := ⟨_, rfl⟩
  rw [hold]
  have hos : old.size ≤ 1000000000000 := by
    rw [← hold]
    cases hfn : f n with
    | none => decide
    | some y => exact hf n y hfn
  have hlt := h.lt
  obtain ⟨D, hown, hD⟩ := h
  obtain ⟨x, t, hv2, hv3⟩ : ∃ (x : ByteArray) (t : Bool), Maps.has D (keyL n) = t ∧ D.atKey (keyL n) (flD (⟨#[]⟩, ⟨#[]⟩)) = flD (x, old) := by
    have hx := hD n
    cases hfn : f n with
    | none => rw [hfn] at hx hold; subst hold; exact ⟨⟨#[]⟩, false, hx, atKey_of_not_has hx _⟩
    | some o => rw [hfn] at hx hold; subst hold; exact ⟨n, true, hx.1, hx.2 _⟩
  have hkey : keyOf Try.prog 9 (.string n) = some (keyL n) := Go.WideMaps.keyOf_string_mk Try.underlying9 (by unfold maxLen; omega)
  have hcs : (d.extract 0 k).size ≤ 1000000000000 := by rw [ByteArray.size_extract]; omega
  obtain ⟨cut, hcut⟩ : ∃ c, d.extract 0 k = c := ⟨_, rfl⟩
  rw [hcut] at hcs ⊢
  have hadd := fun W => strAddT (a := old) (b := cut) W (by omega)
  have HKEY := hide hkey
  have HOW := hide hown
  have HDP := hide (hD.put hown.isMap n (old ++ cut))
  have hme := meth_tear n d k w
  have H2 := hide hv2
  have H3 := hide hv3
  have hta1 := ta_tear1 n d k
  have hta2 := ta_tear2 n d k
  have hk0 : (0 : Int) ≤ (k : Int) := by omega
  have hk1 : (k : Int) ≤ (d.size : Int) := by omega
  clear hkey hown hD hv2 hv3 hold hf
  go_enter Try.func36, Try.ntmps36
  go_wp2_with fail
  refine (file_app n d w).mono ?_
  rintro e w1 ⟨rfl, hb1⟩
  have HO1 := hide (ownsMap_below (unhide HOW) hb1 hlt)
  have HB1 := hide (OnlyRow.of (a := some ⟨b, 0, none⟩) hb1)
  have hz1 := hb1.size
  clear hme hb1
  go_wp2_with (first
    | (at_lookup; refine wpList_lookup_own_ok _ rfl _ _ 56 rfl 9 65 law_str Try.underlying56 flElem (zeroF _) (flD (⟨#[]⟩, ⟨#[]⟩)) [] (flElem_mk _ _) b m D rfl (unhide HO1) _ (keyL n) rfl (unhide HKEY) ?_; intro v ps hv; rw [unhide H3] at hv; obtain rfl := flElem_inv hv; clear hv; rw [unhide H2]))
  obtain ⟨W2, hW2⟩ : ∃ W2, W2 = (w1.alloc (.cells #[.string x, .string old] 65)).alloc (.cells #[.string n, .string d, .int .i64 k] 93) := ⟨_, rfl⟩
  have hbw : b < w1.heap.size := by omega
  have hb2 : Below w1.heap.size w1 W2 := by rw [hW2]; exact belOn (bel1 _ _) (bel1 _ _)
  have q1 : W2.cell? ⟨w1.heap.size, 1, none⟩ = some (.string old) := by rw [hW2]; exact bcl (bel1 _ _) (by simp) (by simp [go_sem])
  have p0 : W2.cell? ⟨w1.heap.size + 1, 0, none⟩ = some (.string n) := by rw [hW2, show w1.heap.size + 1 = (w1.alloc (.cells #[.string x, .string old] 65)).heap.size from by simp]; simp [go_sem]
  have p1 : W2.cell? ⟨w1.heap.size + 1, 1, none⟩ = some (.string d) := by rw [hW2, show w1.heap.size + 1 = (w1.alloc (.cells #[.string x, .string old] 65)).heap.size from by simp]; simp [go_sem]
  have p2 : W2.cell? ⟨w1.heap.size + 1, 2, none⟩ = some (.int .i64 k) := by rw [hW2, show w1.heap.size + 1 = (w1.alloc (.cells #[.string x, .string old] 65)).heap.size from by simp]; simp [go_sem]
  have ho2 : W2.drew.ownsMap Try.prog 9 flElem b m D := ownsMap_of (unhide HO1) (belDrew hb2)
  obtain ⟨w6, hupd, r1, r2⟩ := ho2.update law_str Try.underlying56 (by unfold maxLen; omega) (unhide HKEY) (flElem_mk n (old ++ cut))
  have far : ∀ (g i : Nat) (u : Value), W2.cell? ⟨g, i, none⟩ = some u → g ≠ b → w6.cell? ⟨g, i, none⟩ = some u := fun g i u hc hne => (r2.cell_far ⟨g, i, none⟩ (lt_of_cell (w := W2) hc) (fun q => hne (Option.some.inj q))).trans hc
  have c1 := far _ _ _ q1 (by omega)
  have d0 := far _ _ _ p0 (by omega)
  have d1 := far _ _ _ p1 (by omega)
  have d2 := far _ _ _ p2 (by omega)
  have HR1 := hide r1
  have HR2 := hide r2
  have HW2 := hide hW2.symm
  have HB2 := hide hb2
  clear far r1 r2 ho2 hW2 hb2 HO1 HOW hta1 hta2
  rw [unhide HW2]
  go_region_held3 (fun w' => w'.cell? ⟨w1.heap.size, 1, none⟩ = some (.string old) ∧ w'.cell? ⟨w1.heap.size + 1, 0, none⟩ = some (.string n) ∧ w'.cell? ⟨w1.heap.size + 1, 1, none⟩ = some (.string d) ∧ w'.cell? ⟨w1.heap.size + 1, 2, none⟩ = some (.int .i64 k)) (go_keep) (fail)
  all_goals (try go_wp2_with fail)
  refine ⟨rfl, ?_⟩
  refine ⟨rfl, hide ⟨_, unhide HR1, unhide HDP⟩, ((unhide HB1).trans (OnlyRow.of (belDrew (unhide HB2)))).trans (OnlyRow.grown (unhide HR2))⟩
end Go.Proofs.Ytknpccpfjclngaa
