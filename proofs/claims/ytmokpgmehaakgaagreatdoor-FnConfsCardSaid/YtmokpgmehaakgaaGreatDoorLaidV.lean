/- What the library's variables hold that these roads read: two errors and a table as the rows lay them, and a number of which the world's shape alone is known. -/
import Derived.Test.YtmokpgmehaakgaaGreatDoorRows
import Derived.Test.YtmokpgmehaakgaaGreatDoorRdcI
import Derived.Test.YtmokpgmehaakgaaGreatDoorIdsI
import Derived.ProofKit
import Derived.LaidMore
import Derived.LaidLaws
import Derived.OpenShut
import Derived.Stop.Joined
import Derived.HandedShaped
import Derived.Shelf.Vars
namespace Go.Proofs.YtmokpgmehaakgaaGreatDoor
open Go.ChangeShapes Go.WideShapes Go.ChangeAt Go.WideMaps Go.WideElems Go.RowKit Plain
set_option linter.unusedVariables false

theorem laidVars_at {P : Program} {w : World} : ∀ (laid : List (String × DataW Unit)) (ps : List MemPlace) (i : Nat) (n : String) (d : DataW Unit), DataW.LaidVars P w laid ps → laid[i]? = some (n, d) →
    ∃ g t cs fuel p, P.globalNamed n = some g ∧ (P.globals[g]?).map (·.type) = some t ∧ w.var? P n = some cs ∧ DataW.trod (fun _ => ()) P w 0 (fun _ => true) false fuel t cs.toList = some (d, p) := by
  intro laid
  induction laid with
  | nil => intro ps i n d _ h; simp at h
  | cons x r ih =>
    obtain ⟨n0, d0⟩ := x
    intro ps i n d h hi
    obtain ⟨g, t, cs, fuel, p, q, h1, h2, h3, h4, h5, _⟩ := h
    cases i with
    | zero =>
      obtain ⟨rfl, rfl⟩ : n0 = n ∧ d0 = d := by simpa using hi
      exact ⟨g, t, cs, fuel, p, h1, h2, h3, h4⟩
    | succ i => exact ih q i n d h5 (by simpa using hi)
theorem err_cell {W : World} {laid : List (String × DataW Unit)} {ps : List MemPlace} {i G : Nat} {n nm : String} {d : DataW Unit} (h : DataW.LaidVars Tryz.prog W laid ps) (hi : laid[i]? = some (n, .iface nm d)) (hG : Tryz.prog.globalNamed n = some G) (hT : (Tryz.prog.globals[G]?).map (·.type) = some 59) :
    ∃ te pe, W.cell? ⟨G, 0, none⟩ = some (.iface te pe) := by
  obtain ⟨g, t, cs, fuel, p, h1, h2, h3, h4⟩ := laidVars_at laid ps i n _ h hi
  obtain rfl := Option.some.inj (hG.symm.trans h1)
  obtain rfl := Option.some.inj (hT.symm.trans h2)
  obtain ⟨_, u, v, e, _, _⟩ := iface_of_trod Tryz.underlying59 h4
  refine ⟨u, v, ?_⟩
  rw [World.var?_cell h1 h3 0]
  have : cs[0]? = cs.toList[0]? := by simp
  rw [this, e]
  rfl
theorem rd_of_laid {W : World} {laid : List (String × DataW Unit)} {ps : List MemPlace} {n4 n5 : String} {d4 d5 : DataW Unit} (hlv : DataW.LaidVars Tryz.prog W laid ps) (h4 : laid[4]? = some ("strconv.ErrRange", .iface n4 d4)) (h5 : laid[5]? = some ("strconv.ErrSyntax", .iface n5 d5)) (hs : W.ShapedOpen Tryz.prog) : RdVars W := by
  have h1 := err_cell (i := 5) (G := 1) (n := "strconv.ErrSyntax") hlv h5 (by kernel_rfl) (by kernel_rfl)
  have h2 := err_cell (i := 4) (G := 2) (n := "strconv.ErrRange") hlv h4 (by kernel_rfl) (by kernel_rfl)
  have h0 : ∃ m, W.cell? ⟨3, 0, none⟩ = some (.int .i64 m) := cell_of_shapedOpen_int (t := 3) (zero := #[.int .i64 0]) hs (by decide +kernel) (by kernel_rfl) rfl (by kernel_rfl) (by kernel_rfl) Tryz.underlying3
  refine ⟨h0, h1, h2, ?_, ?_, ?_⟩
  · obtain ⟨m, q⟩ := h0; exact lt_of_cell q
  · obtain ⟨t, p, q⟩ := h1; exact lt_of_cell q
  · obtain ⟨t, p, q⟩ := h2; exact lt_of_cell q
def tzName2 : String := "math/bits.deBruijn64tab"
theorem gZ2 : Tryz.prog.globalNamed tzName2 = some 0 := by kernel_rfl
theorem tZ2 : (Tryz.prog.globals[0]?).map (·.type) = some 105 := by kernel_rfl
theorem cZ2 : Tryz.prog.cellsOf 5 = 1 := by kernel_rfl
theorem datumZ2 : (Rows.laid_math_bits_deBruijn64tab : DataW Unit) = .agg (Lib.deBruijn64tab.map fun n : Nat => .lit (.int .u8 (n : Int))) := by kernel_rfl
theorem tz_of_laid {W : World} {laid : List (String × DataW Unit)} {ps : List MemPlace} (h : DataW.LaidVars Tryz.prog W laid ps) (i : Nat) (hi : laid[i]? = some (tzName2, Rows.laid_math_bits_deBruijn64tab)) : TzAt W := by
  obtain ⟨g0, t0, cs0, f0, p0, hg0, ht0, hv0, hd0⟩ := laidVars_at laid ps i _ _ h hi
  obtain rfl := Option.some.inj (gZ2.symm.trans hg0)
  obtain rfl := Option.some.inj (tZ2.symm.trans ht0)
  have main : TabAt 0 Lib.deBruijn64tab W := by
    intro j hj
    rw [World.var?_cell hg0 hv0 j]
    obtain ⟨xs, m1, rfl, hx1, hlen, hn, hel⟩ := DataW.trod_array Tryz.underlying105 hd0
    have hj3 : j < 64 := hj
    have hj2 : j < xs.length := by omega
    have h0 := hel j hj
    rw [List.getElem?_eq_getElem hj2] at h0
    obtain ⟨k, e1, e2, _⟩ := DataW.trod_int Tryz.underlying5 h0
    rw [datumZ2] at hx1
    have hx2 : (Lib.deBruijn64tab.map fun n : Nat => (.lit (.int .u8 (n : Int)) : DataW Unit)) = xs.map (·.1) := by
      have := congrArg Prod.fst hx1
      simpa using this
    have hx3 := congrArg (·[j]?) hx2
    have hkl : j < Lib.deBruijn64tab.length := hj
    simp only [List.getElem?_map, List.getElem?_eq_getElem hj2, List.getElem?_eq_getElem hkl, Option.map_some, e2] at hx3
    have hk : ((Lib.deBruijn64tab[j] : Nat) : Int) = k := by simpa using hx3
    rw [cZ2] at e1
    have e3 : (cs0.toList.drop (j * 1)).take 1 = [.int .u8 k] := e1
    have e4 := congrArg (·[0]?) e3
    simp at e4
    rw [e4, ← hk]
    simp [List.getD, List.getElem?_eq_getElem hkl]
  exact ⟨main, lt_of_cell (main 0 (by decide))⟩
/-- The frame's door, the world's shape kept beside what the listed variables hold. -/
theorem returnsInHanded_of_change_and_shaped {H : Type} {enc : TypeId × Value → H} {a : Assume} {C : Checked} {os : Os} {f : FuncId} {fn : Func} {s : ChangeSpec} {conds : List PathCond} {apart fresh handsOn again : Bool} {X : World → Array Value → Prop}
    (hX : ∀ (w w' : World) (args : Array Value), w.heap = w'.heap → X w args → X w' args)
    (own : ownKnob C.prog.godebug = none) (started : os.Started) (noInit : C.prog.inits.idxOf? f = none) (hfn : C.prog.funcs[f]? = some fn)
    (witness : ∃ (w : World) (tape : Tape) (i : Input), w.os = os ∧ (w.forCall tape i).Shaped C.prog ∧ i.vars = [] ∧ Input.okWide C.prog (w.forCall tape i) .any w.heap.size f i ∧
      ((s.pre enc C.prog fn conds apart (w.forCall tape i).memory i.args ∧ X (w.forCall tape i).memory i.args) ∧ sizedMet enc C.prog fn (OpenSpec.ofChange s) apart (w.forCall tape i).memory i.args) ∧ a.holds C.prog (lone (Frame.enter C.prog f i.args .normal) [] (w.forCall tape i)))
    (contract : ∀ (W : World) (base : Nat) (args : Array Value) (ds gs : List (DataW H)) (before : List MemPlace),
      (∀ (j : Nat) t v, fn.params[j]? = some t → args[j]? = some v → Value.okWide C.prog W .any base t v) →
      DataW.Whole enc C.prog fn.params.toList s.vars apart W args.toList ds gs before → X W args → W.ShapedOpen C.prog →
      Calls C.prog f args W fun e W' => ∃ v, e = .returned v ∧ s.post enc C.prog fn apart fresh handsOn again W args v W') :
    ReturnsInHanded a C os f .any (fun w args => (s.pre enc C.prog fn conds apart w args ∧ X w args) ∧ sizedMet enc C.prog fn (OpenSpec.ofChange s) apart w args) (s.post enc C.prog fn apart fresh handsOn again) := by
  refine returnsInHanded_of_calls own started noInit witness ?_
  intro w tape i _ hsh _ hok hpre hholds
  obtain ⟨_, _, _, fn', hfn', _, _, _, _, hval⟩ := hok
  have e : fn' = fn := Option.some.inj (hfn'.symm.trans hfn)
  subst e
  obtain ⟨⟨⟨ds, gs, before, hw, hc⟩, hx⟩, hz⟩ := hpre
  have hw' := DataW.Whole.of_heap (w' := w.forCall tape i) (by rfl) hw
  refine (contract (w.forCall tape i) w.heap.size i.args ds gs before hval hw' (hX _ _ _ (by rfl) hx) hsh).mono fun e W' ⟨v, he, hp⟩ => ?_
  subst he
  exact ChangeSpec.post_blind hp
end Go.Proofs.YtmokpgmehaakgaaGreatDoor
