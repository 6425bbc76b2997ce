/- Keys sorted, by the program. -/
import Derived.Test.YtldgkpnlplfopaaGreatDoorKyC
import Derived.Deep.RegionHeld3
namespace Go.Proofs.YtldgkpnlplfopaaGreatDoor
open Go.RowKit Go.Sort Plain
set_option linter.unusedVariables false

theorem growD2 (W : World) (a b : Obj) : ((W.alloc a).alloc b).drew = grow (W.drewN 1) #[a, b] := rfl

set_option maxRecDepth 10000 in
set_option maxHeartbeats 1000000 in
theorem closK_calls (x y : List UInt8) (W : World) :
    Calls Tryz.prog 44 #[.agg (encK x).toArray, .agg (encK y).toArray] W fun e w' => e = .returned (.int .i64 (cfK x y)) ∧ ∃ q os', w' = grow (W.drewN q) os' := by
  obtain ⟨W1, hW1⟩ : ∃ W1, W1 = (W.alloc (.cells (encK x).toArray 63)).alloc (.cells (encK y).toArray 63) := ⟨_, rfl⟩
  have hr1 : W1.heap[W.heap.size]? = some (.cells (encK x).toArray 63 (0, 0)) := by
    rw [hW1, heap_alloc_old _ _ (by simp)]
    exact heap_alloc_new _ _
  have hr2 : W1.heap[W.heap.size + 1]? = some (.cells (encK y).toArray 63 (0, 0)) := by rw [hW1]; exact heap_alloc2_new _ _ _
  have cel : ∀ (z : List UInt8) (b : Nat), W1.heap[b]? = some (.cells (encK z).toArray 63 (0, 0)) → ∀ i (h : i < (padK z).length), W1.drew.cell? ⟨b, i, none⟩ = some (.int .u8 ((padK z)[i].toNat : Int)) := fun z b hb i h => by
    show W1.cell? ⟨b, i, none⟩ = _
    rw [cell_of_row W1 b i _ _ _ hb]
    simp [encK, h]
  have HBC := hide (bytesCompare_calls W1.drew W.heap.size (W.heap.size + 1) 32 32 (padK x) (padK y) (padK_len x) (padK_len y) (cel x _ hr1) (cel y _ hr2))
  have HG := hide (show ∃ q os', W1.drew = grow (W.drewN q) os' from ⟨1, _, by rw [hW1]; exact growD2 W _ _⟩)
  have HW1 := hide hW1.symm
  have hs1 : (encK x).toArray.size = 32 := by simp [encK_len]
  have hs2 : (encK y).toArray.size = 32 := by simp [encK_len]
  unfold cfK
  generalize Lib.compareBytes (padK x) (padK y) = r at HBC
  clear hr1 hr2 cel hW1
  go_enter Tryz.func44, Tryz.ntmps44
  go_wp2_with fail
  rw [unhide HW1]
  go_region_with (go_at_call 45; refine (unhide HBC).mono ?_; rintro e w3 ⟨rfl, rfl⟩)
  all_goals
    go_wp2_with fail
    go_ret
    exact ⟨rfl, unhide HG⟩
theorem cmpLaysK (blk off size : Nat) (w : World) : CmpLays Tryz.prog 44 #[] keyE.enc 32 cfK blk off size w := fun _ _ _ _ x y => closK_calls x y _

instance : Inhabited (List UInt8) := ⟨[]⟩
namespace Plain
/-- Keys that rise. -/
def RisK (ks : List (List UInt8)) : Prop := ks.Pairwise fun x y => padK x < padK y
theorem RisK.inj {es : List (List UInt8)} (h : RisK es) {x y : List UInt8} (hx : x ∈ es) (hy : y ∈ es) (e : padK x = padK y) : x = y := by
  induction es with
  | nil => cases hx
  | cons z l ih =>
    obtain ⟨h1, h2⟩ := List.pairwise_cons.1 h
    rcases List.mem_cons.1 hx with ex | hx
    · rcases List.mem_cons.1 hy with ey | hy
      · rw [ex, ey]
      · have := h1 y hy; rw [← ex, e] at this; exact absurd this (List.lt_irrefl _)
    · rcases List.mem_cons.1 hy with ey | hy
      · have := h1 x hx; rw [← ey, e] at this; exact absurd this (List.lt_irrefl _)
      · exact ih h2 hx hy
theorem sorted_isK {es ls : List (List UInt8)} {d' : Array (List UInt8)} (hr : RisK es) (hp : ls.Perm es) (h1 : PermIn 0 ls.toArray.size ls.toArray d') (h2 : SortedIn (ltOf cfK) 0 ls.toArray.size d') : d'.toList = es := by
  obtain ⟨hsz, _, hperm⟩ := h1
  have e1 : d'.extract 0 ls.toArray.size = d' := by rw [← hsz]; exact Array.extract_size
  rw [e1, Array.extract_size] at hperm
  have hpe : d'.toList.Perm es := hperm.trans (by simpa using hp)
  refine List.Perm.eq_of_pairwise (le := fun x y => padK x ≤ padK y) ?_ ?_ ?_ hpe
  · intro a b ha hb q1 q2
    exact hr.inj (hpe.mem_iff.1 ha) hb (List.le_antisymm q1 q2)
  · rw [List.pairwise_iff_getElem]
    intro i j hi hj hij
    have := h2 i j (by omega) hij (by rw [← hsz]; simpa using hj)
    rw [ltK] at this
    simp at this hi hj
    rw [getElem!_pos d' j hj, getElem!_pos d' i hi] at this
    simpa using this
  · exact hr.imp (fun h => List.le_of_lt h)
end Plain

theorem sortK_calls (B g n cap : Nat) (es ls : List (List UInt8)) (w : World) (hn : ls.length = n) (hn2 : n ≤ 1048576) (hr : RisK es) (hp : ls.Perm es) (h : OwnR keyE w B (.slice (some ⟨g, 0, none⟩) n cap) ls) :
    Calls Tryz.prog 61 #[.slice (some ⟨g, 0, none⟩) n cap, .func (.func 44) #[] #[]] w fun e w' => e = .returned (.tuple #[]) ∧ OwnR keyE w' B (.slice (some ⟨g, 0, none⟩) n cap) es ∧ Below B w w' := by
  have hlt := World.ownsRow.lt h g rfl
  have hsz : ls.toArray.size = n := by simp [hn]
  have eg : ∀ args w, (callFunc 44 args).run Tryz.prog w = .ok (.enter 44 args) w := enters_of Tryz.func44 (by kernel_rfl) rfl
  have C := AnyQ.slices_SortFunc Tryz.lShlK 32 Tryz.isAgg63 Tryz.sizeOf63 keyE.enc encK_len keyE.hone cfK swoK 44 #[] g 0 cap ls.toArray w eg (cmpLaysK _ _ _ _) h.holdsK hlt.2 (by rw [hsz]; omega)
  rw [hsz] at C
  refine C.mono ?_
  rintro e w' ⟨rfl, d', m, os, q1, q2, rfl⟩
  rw [← hsz] at q1 q2
  have hd := sorted_isK hr hp q1 q2
  have hd2 : d' = es.toArray := by rw [← hd]
  subst hd2
  refine ⟨rfl, ?_, ?_⟩
  · exact OwnR.sortedK (e := keyE) h (by rw [hp.length_eq]) m os
  · exact below_sortedK keyE w B g m _ os hlt.1 hlt.2
theorem sortK_none (c : Nat) (fv : Value) (w : World) :
    Calls Tryz.prog 61 #[.slice none 0 c, fv] w fun e w' => e = .returned (.tuple #[]) ∧ w' = w := AnyF.slices_SortFunc_none Tryz.lShlK none c fv w
theorem sortK_any (B : Nat) (a : Option Addr) (n cap : Nat) (es ls : List (List UInt8)) (w : World) (hn : ls.length = n) (hn2 : n ≤ 1048576) (hr : RisK es) (hp : ls.Perm es) (h : OwnR keyE w B (.slice a n cap) ls) :
    Calls Tryz.prog 61 #[.slice a n cap, .func (.func 44) #[] #[]] w fun e w' => e = .returned (.tuple #[]) ∧ OwnR keyE w' B (.slice a n cap) es ∧ Below B w w' := by
  rcases h.2 with ⟨e, e0⟩ | ⟨g, cap', cur, e, _⟩
  · simp at e
    obtain ⟨rfl, rfl, rfl⟩ := e
    refine (sortK_none 0 _ w).mono ?_
    rintro e w' ⟨rfl, rfl⟩
    obtain rfl := List.length_eq_zero_iff.1 hn
    obtain rfl : es = [] := List.Perm.nil_eq hp |>.symm
    exact ⟨rfl, ownR_nil _ _ _, Below.refl _ _⟩
  · simp at e
    obtain ⟨rfl, _⟩ := e
    exact sortK_calls B g n cap es ls w hn hn2 hr hp h
end Go.Proofs.YtldgkpnlplfopaaGreatDoor
