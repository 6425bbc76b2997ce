/- What the package variables hold that are laid: the table of the rounds' words. -/
import Derived.Test.YtldgkpnlplfopaaGreatDoorRows
import Derived.Test.YtldgkpnlplfopaaGreatDoorSzB
import Derived.ProofKit
import Derived.LaidMore
import Derived.LaidLaws
import Derived.OpenShut
import Derived.OpenVars
import Derived.Stop.Joined
namespace Go.Proofs.YtldgkpnlplfopaaGreatDoor
open Go.ChangeShapes Go.WideShapes Go.ChangeAt Go.WideMaps Go.WideElems Go.RowKit Plain
set_option linter.unusedVariables false

theorem trodVars_len {H : Type} {enc : TypeId × Value → H} {P : Program} {w : World} {spare : Nat → Bool} : ∀ {ns : List String} {gs : List (DataW H)} {ps : List MemPlace}, DataW.TrodVars enc P w spare ns gs ps → gs.length = ns.length
  | [], [], _, _ => rfl
  | [], _ :: _, _, h => h.elim
  | _ :: _, [], _, h => h.elim
  | n :: ns, d :: ds, ps, h => by
    obtain ⟨g, t, cs, fuel, p, q, h1, h2, h3, h4, hs, e⟩ := h
    rw [List.length_cons, List.length_cons, trodVars_len hs]
theorem laidVars_at {P : Program} {w : World} : ∀ (laid : List (String × DataW Unit)) (ps : List MemPlace) (i : Nat) (n : String) (d : DataW Unit), DataW.LaidVars P w laid ps → laid[i]? = some (n, d) →
    ∃ g t cs fuel p, P.globalNamed n = some g ∧ (P.globals[g]?).map (·.type) = some t ∧ w.var? P n = some cs ∧ DataW.trod (fun _ => ()) P w 0 (fun _ => true) false fuel t cs.toList = some (d, p) := by
  intro laid
  induction laid with
  | nil => intro ps i n d _ h; simp at h
  | cons x r ih =>
    obtain ⟨n0, d0⟩ := x
    intro ps i n d h hi
    obtain ⟨g, t, cs, fuel, p, q, h1, h2, h3, h4, h5, _⟩ := h
    cases i with
    | zero =>
      obtain ⟨rfl, rfl⟩ : n0 = n ∧ d0 = d := by simpa using hi
      exact ⟨g, t, cs, fuel, p, h1, h2, h3, h4⟩
    | succ i => exact ih q i n d h5 (by simpa using hi)

def roundName : String := "loop.example/g00141/impl.roundWords"
theorem gK : Tryz.prog.globalNamed roundName = some 1 := by kernel_rfl
theorem tK : (Tryz.prog.globals[1]?).map (·.type) = some 142 := by kernel_rfl
theorem cK : Tryz.prog.cellsOf 93 = 1 := by kernel_rfl
theorem datumK : (Rows.laid_loop_example_g00141_impl_roundWords : DataW Unit) = .agg (kL.map fun n => .lit (.int .u32 n)) := by kernel_rfl
theorem kx_of_laid {W : World} {laid : List (String × DataW Unit)} {ps : List MemPlace} (h : DataW.LaidVars Tryz.prog W laid ps) (i : Nat) (hi : laid[i]? = some (roundName, Rows.laid_loop_example_g00141_impl_roundWords)) : KAt W := by
  obtain ⟨g0, t0, cs0, f0, p0, hg0, ht0, hv0, hd0⟩ := laidVars_at laid ps i _ _ h hi
  obtain rfl := Option.some.inj (gK.symm.trans hg0)
  obtain rfl := Option.some.inj (tK.symm.trans ht0)
  intro j hj
  rw [World.var?_cell hg0 hv0 j]
  obtain ⟨xs, m1, rfl, hx1, hlen, hn, hel⟩ := DataW.trod_array Tryz.underlying142 hd0
  have hj2 : j < xs.length := by omega
  have h0 := hel j hj
  rw [List.getElem?_eq_getElem hj2] at h0
  obtain ⟨k, e1, e2, _⟩ := DataW.trod_int Tryz.underlying93 h0
  rw [datumK] at hx1
  have hx2 : (kL.map fun n => (.lit (.int .u32 n) : DataW Unit)) = xs.map (·.1) := by
    have := congrArg Prod.fst hx1
    simpa using this
  have hx3 := congrArg (·[j]?) hx2
  have hkl : j < kL.length := hj
  simp only [List.getElem?_map, List.getElem?_eq_getElem hj2, List.getElem?_eq_getElem hkl, Option.map_some, e2] at hx3
  have hk : kL[j] = k := by simpa using hx3
  rw [cK] at e1
  have e3 : (cs0.toList.drop (j * 1)).take 1 = [.int .u32 k] := e1
  have e4 := congrArg (·[0]?) e3
  simp at e4
  rw [e4, ← hk]
  simp [List.getD, List.getElem?_eq_getElem hkl]
end Go.Proofs.YtldgkpnlplfopaaGreatDoor
