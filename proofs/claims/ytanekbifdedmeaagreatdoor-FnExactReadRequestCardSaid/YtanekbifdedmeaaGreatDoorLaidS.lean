/- What the library's variables hold that the roads of chapter 16's readers read: two errors as the rows lay them, and a number of which the world's shape alone is known. -/
import Derived.Test.YtanekbifdedmeaaGreatDoorRows
import Derived.Test.YtanekbifdedmeaaGreatDoorRrI
import Derived.Test.YtanekbifdedmeaaGreatDoorGAF
import Derived.ProofKit
import Derived.LaidMore
import Derived.LaidLaws
import Derived.OpenShut
import Derived.Stop.Joined
import Derived.HandedShaped
import Derived.Shelf.Vars
namespace Go.Proofs.YtanekbifdedmeaaGreatDoor
open Go.ChangeShapes Go.WideShapes Go.ChangeAt Go.WideMaps Go.WideElems Go.RowKit Plain
set_option linter.unusedVariables false

theorem err_cell {W : World} {laid : List (String × DataW Unit)} {ps : List MemPlace} {i G : Nat} {n nm : String} {d : DataW Unit} (h : DataW.LaidVars Tryz.prog W laid ps) (hi : laid[i]? = some (n, .iface nm d)) (hG : Tryz.prog.globalNamed n = some G) (hT : (Tryz.prog.globals[G]?).map (·.type) = some 62) :
    ∃ te pe, W.cell? ⟨G, 0, none⟩ = some (.iface te pe) := by
  obtain ⟨g, t, cs, fuel, p, h1, h2, h3, h4⟩ := lvAt laid ps i n _ h hi
  obtain rfl := Option.some.inj (hG.symm.trans h1)
  obtain rfl := Option.some.inj (hT.symm.trans h2)
  obtain ⟨_, u, v, e, _, _⟩ := iface_of_trod Tryz.underlying62 h4
  refine ⟨u, v, ?_⟩
  rw [World.var?_cell h1 h3 0]
  have : cs[0]? = cs.toList[0]? := by simp
  rw [this, e]
  rfl
theorem rr_of_laid {W : World} {laid : List (String × DataW Unit)} (h : laidMetH Tryz.prog laid W) (hp : laidMetH Tryz.prog laid W = laidMet Tryz.prog laid W) (hs : W.ShapedOpen Tryz.prog) (i2 : laid[2]? = some ("internal/strconv.uint64pow10", Rows.laid_internal_strconv_uint64pow10)) (i4 : laid[4]? = some ("strconv.ErrRange", Rows.laid_strconv_ErrRange)) (i5 : laid[5]? = some ("strconv.ErrSyntax", Rows.laid_strconv_ErrSyntax)) : RrV W ∧ P10 W := by
  rw [hp] at h
  obtain ⟨ps, hlv, _, _⟩ := h
  have h1 := err_cell (i := 5) (G := 5) (n := "strconv.ErrSyntax") hlv i5 (by kernel_rfl) (by kernel_rfl)
  have h2 := err_cell (i := 4) (G := 6) (n := "strconv.ErrRange") hlv i4 (by kernel_rfl) (by kernel_rfl)
  have h0 : ∃ m, W.cell? ⟨2, 0, none⟩ = some (.int .i64 m) := cell_of_shapedOpen_int (t := 3) (zero := #[.int .i64 0]) hs (by decide +kernel) (by kernel_rfl) rfl (by kernel_rfl) (by kernel_rfl) Tryz.underlying3
  refine ⟨⟨h0, h1, h2, ?_, ?_, ?_⟩, pow_of_laid hlv 2 i2⟩
  · obtain ⟨m, q⟩ := h0; exact lt_of_cell q
  · obtain ⟨t, p, q⟩ := h1; exact lt_of_cell q
  · obtain ⟨t, p, q⟩ := h2; exact lt_of_cell q
/-- The frame's door, the world's shape kept beside what the listed variables hold. -/
theorem returnsInHanded_of_change_and_shaped {H : Type} {enc : TypeId × Value → H} {a : Assume} {C : Checked} {os : Os} {f : FuncId} {fn : Func} {s : ChangeSpec} {conds : List PathCond} {apart fresh handsOn again : Bool} {X : World → Array Value → Prop}
    (hX : ∀ (w w' : World) (args : Array Value), w.heap = w'.heap → X w args → X w' args)
    (own : ownKnob C.prog.godebug = none) (started : os.Started) (noInit : C.prog.inits.idxOf? f = none) (hfn : C.prog.funcs[f]? = some fn)
    (witness : ∃ (w : World) (tape : Tape) (i : Input), w.os = os ∧ (w.forCall tape i).Shaped C.prog ∧ i.vars = [] ∧ Input.okWide C.prog (w.forCall tape i) .any w.heap.size f i ∧
      ((s.pre enc C.prog fn conds apart (w.forCall tape i).memory i.args ∧ X (w.forCall tape i).memory i.args) ∧ sizedMet enc C.prog fn (OpenSpec.ofChange s) apart (w.forCall tape i).memory i.args) ∧ a.holds C.prog (lone (Frame.enter C.prog f i.args .normal) [] (w.forCall tape i)))
    (contract : ∀ (W : World) (base : Nat) (args : Array Value) (ds gs : List (DataW H)) (before : List MemPlace),
      (∀ (j : Nat) t v, fn.params[j]? = some t → args[j]? = some v → Value.okWide C.prog W .any base t v) →
      DataW.Whole enc C.prog fn.params.toList s.vars apart W args.toList ds gs before → X W args → W.ShapedOpen C.prog →
      Calls C.prog f args W fun e W' => ∃ v, e = .returned v ∧ s.post enc C.prog fn apart fresh handsOn again W args v W') :
    ReturnsInHanded a C os f .any (fun w args => (s.pre enc C.prog fn conds apart w args ∧ X w args) ∧ sizedMet enc C.prog fn (OpenSpec.ofChange s) apart w args) (s.post enc C.prog fn apart fresh handsOn again) := by
  refine returnsInHanded_of_calls own started noInit witness ?_
  intro w tape i _ hsh _ hok hpre hholds
  obtain ⟨_, _, _, fn', hfn', _, _, _, _, hval⟩ := hok
  have e : fn' = fn := Option.some.inj (hfn'.symm.trans hfn)
  subst e
  obtain ⟨⟨⟨ds, gs, before, hw, hc⟩, hx⟩, hz⟩ := hpre
  have hw' := DataW.Whole.of_heap (w' := w.forCall tape i) (by rfl) hw
  refine (contract (w.forCall tape i) w.heap.size i.args ds gs before hval hw' (hX _ _ _ (by rfl) hx) hsh).mono fun e W' ⟨v, he, hp⟩ => ?_
  subst he
  exact ChangeSpec.post_blind hp
end Go.Proofs.YtanekbifdedmeaaGreatDoor
