/- Texts of one kind, put together. -/
import Derived.Test.YtmienlnhbdbefaaGreatDoorRows
import Derived.Test.YtmienlnhbdbefaaGreatDoorShaW
import Derived.ProofKit
import Derived.LaidMore
import Derived.LaidLaws
import Derived.OpenShut
import Derived.OpenVars
import Derived.Stop.Joined
import Derived.Test.YtmienlnhbdbefaaGreatDoorRzH

/- What the package variables hold that are laid: the table of the rounds' words. -/
namespace Go.Proofs.YtmienlnhbdbefaaGreatDoor
open Go.ChangeShapes Go.WideShapes Go.ChangeAt Go.WideMaps Go.WideElems Go.RowKit Plain
set_option linter.unusedVariables false

theorem trodVars_len {H : Type} {enc : TypeId × Value → H} {P : Program} {w : World} {spare : Nat → Bool} : ∀ {ns : List String} {gs : List (DataW H)} {ps : List MemPlace}, DataW.TrodVars enc P w spare ns gs ps → gs.length = ns.length
  | [], [], _, _ => rfl
  | [], _ :: _, _, h => h.elim
  | _ :: _, [], _, h => h.elim
  | n :: ns, d :: ds, ps, h => by
    obtain ⟨g, t, cs, fuel, p, q, h1, h2, h3, h4, hs, e⟩ := h
    rw [List.length_cons, List.length_cons, trodVars_len hs]
theorem laidVars_at {P : Program} {w : World} : ∀ (laid : List (String × DataW Unit)) (ps : List MemPlace) (i : Nat) (n : String) (d : DataW Unit), DataW.LaidVars P w laid ps → laid[i]? = some (n, d) →
    ∃ g t cs fuel p, P.globalNamed n = some g ∧ (P.globals[g]?).map (·.type) = some t ∧ w.var? P n = some cs ∧ DataW.trod (fun _ => ()) P w 0 (fun _ => true) false fuel t cs.toList = some (d, p) := by
  intro laid
  induction laid with
  | nil => intro ps i n d _ h; simp at h
  | cons x r ih =>
    obtain ⟨n0, d0⟩ := x
    intro ps i n d h hi
    obtain ⟨g, t, cs, fuel, p, q, h1, h2, h3, h4, h5, _⟩ := h
    cases i with
    | zero =>
      obtain ⟨rfl, rfl⟩ : n0 = n ∧ d0 = d := by simpa using hi
      exact ⟨g, t, cs, fuel, p, h1, h2, h3, h4⟩
    | succ i => exact ih q i n d h5 (by simpa using hi)

def roundName : String := "loop.example/g00141/impl.roundWords"
theorem gK : Tryz.prog.globalNamed roundName = some 2 := by kernel_rfl
theorem tK : (Tryz.prog.globals[2]?).map (·.type) = some 150 := by kernel_rfl
theorem cK : Tryz.prog.cellsOf 112 = 1 := by kernel_rfl
theorem datumK : (Rows.laid_loop_example_g00141_impl_roundWords : DataW Unit) = .agg (kL.map fun n => .lit (.int .u32 n)) := by kernel_rfl
theorem kx_of_laid {W : World} {laid : List (String × DataW Unit)} {ps : List MemPlace} (h : DataW.LaidVars Tryz.prog W laid ps) (i : Nat) (hi : laid[i]? = some (roundName, Rows.laid_loop_example_g00141_impl_roundWords)) : KAt W := by
  obtain ⟨g0, t0, cs0, f0, p0, hg0, ht0, hv0, hd0⟩ := laidVars_at laid ps i _ _ h hi
  obtain rfl := Option.some.inj (gK.symm.trans hg0)
  obtain rfl := Option.some.inj (tK.symm.trans ht0)
  intro j hj
  rw [World.var?_cell hg0 hv0 j]
  obtain ⟨xs, m1, rfl, hx1, hlen, hn, hel⟩ := DataW.trod_array Tryz.underlying150 hd0
  have hj2 : j < xs.length := by omega
  have h0 := hel j hj
  rw [List.getElem?_eq_getElem hj2] at h0
  obtain ⟨k, e1, e2, _⟩ := DataW.trod_int Tryz.underlying112 h0
  rw [datumK] at hx1
  have hx2 : (kL.map fun n => (.lit (.int .u32 n) : DataW Unit)) = xs.map (·.1) := by
    have := congrArg Prod.fst hx1
    simpa using this
  have hx3 := congrArg (·[j]?) hx2
  have hkl : j < kL.length := hj
  simp only [List.getElem?_map, List.getElem?_eq_getElem hj2, List.getElem?_eq_getElem hkl, Option.map_some, e2] at hx3
  have hk : kL[j] = k := by simpa using hx3
  rw [cK] at e1
  have e3 : (cs0.toList.drop (j * 1)).take 1 = [.int .u32 k] := e1
  have e4 := congrArg (·[0]?) e3
  simp at e4
  rw [e4, ← hk]
  simp [List.getD, List.getElem?_eq_getElem hkl]
end Go.Proofs.YtmienlnhbdbefaaGreatDoor


/- What the library's table of 64 places holds, beside the rounds' words. -/
namespace Go.Proofs.YtmienlnhbdbefaaGreatDoor
open Go.ChangeShapes Go.WideShapes Go.ChangeAt Go.WideMaps Go.WideElems Go.RowKit Plain
set_option linter.unusedVariables false

def tzName2 : String := "math/bits.deBruijn64tab"
theorem gZ2 : Tryz.prog.globalNamed tzName2 = some 0 := by kernel_rfl
theorem tZ2 : (Tryz.prog.globals[0]?).map (·.type) = some 107 := by kernel_rfl
theorem cZ2 : Tryz.prog.cellsOf 5 = 1 := by kernel_rfl
theorem datumZ2 : (Rows.laid_math_bits_deBruijn64tab : DataW Unit) = .agg (Lib.deBruijn64tab.map fun n : Nat => .lit (.int .u8 (n : Int))) := by kernel_rfl
theorem tz_of_laid {W : World} {laid : List (String × DataW Unit)} {ps : List MemPlace} (h : DataW.LaidVars Tryz.prog W laid ps) (i : Nat) (hi : laid[i]? = some (tzName2, Rows.laid_math_bits_deBruijn64tab)) : TzAt W := by
  obtain ⟨g0, t0, cs0, f0, p0, hg0, ht0, hv0, hd0⟩ := laidVars_at laid ps i _ _ h hi
  obtain rfl := Option.some.inj (gZ2.symm.trans hg0)
  obtain rfl := Option.some.inj (tZ2.symm.trans ht0)
  have main : TabAt 0 Lib.deBruijn64tab W := by
    intro j hj
    rw [World.var?_cell hg0 hv0 j]
    obtain ⟨xs, m1, rfl, hx1, hlen, hn, hel⟩ := DataW.trod_array Tryz.underlying107 hd0
    have hj3 : j < 64 := hj
    have hj2 : j < xs.length := by omega
    have h0 := hel j hj
    rw [List.getElem?_eq_getElem hj2] at h0
    obtain ⟨k, e1, e2, _⟩ := DataW.trod_int Tryz.underlying5 h0
    rw [datumZ2] at hx1
    have hx2 : (Lib.deBruijn64tab.map fun n : Nat => (.lit (.int .u8 (n : Int)) : DataW Unit)) = xs.map (·.1) := by
      have := congrArg Prod.fst hx1
      simpa using this
    have hx3 := congrArg (·[j]?) hx2
    have hkl : j < Lib.deBruijn64tab.length := hj
    simp only [List.getElem?_map, List.getElem?_eq_getElem hj2, List.getElem?_eq_getElem hkl, Option.map_some, e2] at hx3
    have hk : ((Lib.deBruijn64tab[j] : Nat) : Int) = k := by simpa using hx3
    rw [cZ2] at e1
    have e3 : (cs0.toList.drop (j * 1)).take 1 = [.int .u8 k] := e1
    have e4 := congrArg (·[0]?) e3
    simp at e4
    rw [e4, ← hk]
    simp [List.getD, List.getElem?_eq_getElem hkl]
  exact ⟨main, lt_of_cell (main 0 (by decide))⟩
end Go.Proofs.YtmienlnhbdbefaaGreatDoor

