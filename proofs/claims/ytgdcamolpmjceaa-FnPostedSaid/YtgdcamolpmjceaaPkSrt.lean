/- Packets sorted by their ids, by the program. -/
import Derived.Test.YtgdcamolpmjceaaSrtK
import Derived.Test.YtgdcamolpmjceaaSrtW
import Derived.Test.YtgdcamolpmjceaaShlP
import Derived.Test.YtgdcamolpmjceaaPktR
namespace Go.Proofs.Ytgdcamolpmjceaa
open Go.RowKit Go.Sort Plain
set_option linter.unusedVariables false

namespace Plain
instance : Inhabited Pkt := ⟨⟨0, 0, 0, ⟨#[]⟩⟩⟩
def cfP (x y : Pkt) : Int := cmpZ x.id y.id
theorem ltP (x y : Pkt) : ltOf cfP x y = decide (x.id < y.id) := by
  unfold ltOf cfP cmpZ
  rw [decide_eq_decide]
  split <;> (try split) <;> omega
theorem swoP : SWO (ltOf cfP) where
  irrefl x := by rw [ltP]; simp
  trans x y z h1 h2 := by rw [ltP] at *; simp at *; omega
  ntrans x y z h1 h2 := by rw [ltP] at *; simp at *; omega
def RisP (es : List Pkt) : Prop := es.Pairwise fun x y => x.id < y.id
theorem RisP.inj {es : List Pkt} (h : RisP es) {x y : Pkt} (hx : x ∈ es) (hy : y ∈ es) (e : x.id = y.id) : x = y := by
  induction es with
  | nil => cases hx
  | cons z l ih =>
    obtain ⟨h1, h2⟩ := List.pairwise_cons.1 h
    rcases List.mem_cons.1 hx with ex | hx
    · rcases List.mem_cons.1 hy with ey | hy
      · rw [ex, ey]
      · have := h1 y hy; rw [ex] at e; omega
    · rcases List.mem_cons.1 hy with ey | hy
      · have := h1 x hx; rw [ey] at e; omega
      · exact ih h2 hx hy
theorem sorted_is {es ls : List Pkt} {d' : Array Pkt} (hr : RisP es) (hp : ls.Perm es) (h1 : PermIn 0 ls.toArray.size ls.toArray d') (h2 : SortedIn (ltOf cfP) 0 ls.toArray.size d') : d'.toList = es := by
  obtain ⟨hsz, _, hperm⟩ := h1
  have e1 : d'.extract 0 ls.toArray.size = d' := by rw [← hsz]; exact Array.extract_size
  rw [e1, Array.extract_size] at hperm
  have hpe : d'.toList.Perm es := hperm.trans (by simpa using hp)
  refine List.Perm.eq_of_pairwise (le := fun x y => x.id ≤ y.id) ?_ ?_ ?_ hpe
  · intro a b ha hb q1 q2
    exact hr.inj (hpe.mem_iff.1 ha) hb (by omega)
  · rw [List.pairwise_iff_getElem]
    intro i j hi hj hij
    have := h2 i j (by omega) hij (by rw [← hsz]; simpa using hj)
    rw [ltP] at this
    simp at this hi hj
    rw [getElem!_pos d' j hj, getElem!_pos d' i hi] at this
    simpa using this
  · exact hr.imp (fun h => by omega)
end Plain

set_option maxRecDepth 10000 in
theorem closP_calls (x y : Pkt) (W : World) :
    Calls Try.prog 47 #[.agg #[.int .i64 x.id, .int .i64 x.src, .int .i64 x.dst, .string x.body], .agg #[.int .i64 y.id, .int .i64 y.src, .int .i64 y.dst, .string y.body]] W fun e w' => e = .returned (.int .i64 (cfP x y)) ∧ ∃ q os', w' = grow (W.drewN q) os' := by
  have HI := hide (fun W => cmpI_calls x.id y.id W)
  unfold cfP
  generalize cmpZ x.id y.id = c2 at HI ⊢
  go_enter Try.func47, Try.ntmps47
  go_wp2_with fail
  refine (unhide HI _).mono ?_
  rintro e w1 ⟨rfl, rfl⟩
  go_wp2_with fail
  go_ret
  exact ⟨rfl, 0, _, grow2 W _ _⟩
theorem cmpLaysP (blk off size : Nat) (w : World) : CmpLays Try.prog 47 #[] pktE.enc 4 cfP blk off size w := fun _ _ _ _ x y => closP_calls x y _

theorem sortP_calls (B g n cap : Nat) (es ls : List Pkt) (w : World) (hn : ls.length = n) (hn2 : n ≤ 1048576) (hr : RisP es) (hp : ls.Perm es) (h : OwnR pktE w B (.slice (some ⟨g, 0, none⟩) n cap) ls) :
    Calls Try.prog 46 #[.slice (some ⟨g, 0, none⟩) n cap, .func (.func 47) #[] #[]] w fun e w' => e = .returned (.tuple #[]) ∧ OwnR pktE w' B (.slice (some ⟨g, 0, none⟩) n cap) es ∧ Below B w w' := by
  have hlt := World.ownsRow.lt h g rfl
  have hsz : ls.toArray.size = n := by simp [hn]
  have eg : ∀ args w, (callFunc 47 args).run Try.prog w = .ok (.enter 47 args) w := enters_of Try.func47 (by kernel_rfl) rfl
  have C := AnyQ.slices_SortFunc Try.lShlP 4 Try.isAgg34 Try.sizeOf34 pktE.enc (fun _ => rfl) pktE.hone cfP swoP 47 #[] g 0 cap ls.toArray w eg (cmpLaysP _ _ _ _) h.holdsK hlt.2 (by rw [hsz]; omega)
  rw [hsz] at C
  refine C.mono ?_
  rintro e w' ⟨rfl, d', m, os, q1, q2, rfl⟩
  rw [← hsz] at q1 q2
  have hd := sorted_is hr hp q1 q2
  have hd2 : d' = es.toArray := by rw [← hd]
  subst hd2
  refine ⟨rfl, ?_, ?_⟩
  · exact OwnR.sortedK (e := pktE) h (by rw [hp.length_eq]) m os
  · exact below_sortedK pktE w B g m _ os hlt.1 hlt.2
theorem sortP_none (c : Nat) (fv : Value) (w : World) :
    Calls Try.prog 46 #[.slice none 0 c, fv] w fun e w' => e = .returned (.tuple #[]) ∧ w' = w := AnyF.slices_SortFunc_none Try.lShlP none c fv w
theorem sortP_any (B : Nat) (a : Option Addr) (n cap : Nat) (es ls : List Pkt) (w : World) (hn : ls.length = n) (hn2 : n ≤ 1048576) (hr : RisP es) (hp : ls.Perm es) (h : OwnR pktE w B (.slice a n cap) ls) :
    Calls Try.prog 46 #[.slice a n cap, .func (.func 47) #[] #[]] w fun e w' => e = .returned (.tuple #[]) ∧ OwnR pktE w' B (.slice a n cap) es ∧ Below B w w' := by
  rcases h.2 with ⟨e, e0⟩ | ⟨g, cap', cur, e, _⟩
  · simp at e
    obtain ⟨rfl, rfl, rfl⟩ := e
    refine (sortP_none 0 _ w).mono ?_
    rintro e w' ⟨rfl, rfl⟩
    obtain rfl := List.length_eq_zero_iff.1 hn
    obtain rfl : es = [] := List.Perm.nil_eq hp |>.symm
    exact ⟨rfl, ownR_nil _ _ _, Below.refl _ _⟩
  · simp at e
    obtain ⟨rfl, _⟩ := e
    exact sortP_calls B g n cap es ls w hn hn2 hr hp h
end Go.Proofs.Ytgdcamolpmjceaa
