/- The specification's disks: what an op does, which disks are right. -/
import Derived.Test.YtknpccpfjclngaaDskU
namespace Go.Proofs.Ytknpccpfjclngaa
open Go.RowKit Plain
set_option linter.unusedVariables false

/-- How a slice's address may be. -/
def Plain.AdOk (ad : Option Addr) (c : Nat) : Prop := (ad = none ∧ c = 0) ∨ ∃ g, ad = some ⟨g, 0, none⟩
theorem OwnR.ad {α : Type} {e : Elem α} {W : World} {B : Nat} {ad : Option Addr} {n c : Nat} {xs : List α} (h : OwnR e W B (.slice ad n c) xs) : AdOk ad c := by
  rcases h.2 with ⟨e1, _⟩ | ⟨g, cap, cur, e1, _⟩
  · simp at e1; exact .inl ⟨e1.1, e1.2.2⟩
  · simp at e1; exact .inr ⟨g, e1.1⟩

theorem appG {α : Type} {e : Elem α} {ops : Array Oper} {rest : List Oper} {o : Oper} {a : Act} {Q : Exit → Act → World → Prop} (hgd : o.guard = none) (s x : Operand)
    (ho : o.op = .call { callee := .builtin .append, args := #[s, x], argTypes := #[e.S, e.S] })
    {w : World} {B : Nat} {v : Value} {xs ys : List α} (hown : OwnR e w B v xs) (hs : a.eval s = v) (ad : Option Addr) (m c : Nat) (hx : a.eval x = .slice ad m c) (hy : ys.length = m) (hr : RowAt e w ad ys) (had : AdOk ad c)
    (hlen : xs.length + m < 100000000) (hB : B ≤ w.heap.size)
    (h : ∀ v' w', OwnR e w' B v' (xs ++ ys) → Below B w w' → wpList Try.prog ops Q rest (a.put o.dst v') w') :
    wpList Try.prog ops Q (o :: rest) a w := by
  obtain ⟨i0, hi, hz0, hz1, hz2⟩ := info_parts e.hinfo
  subst hy
  rcases had with ⟨rfl, rfl⟩ | ⟨g, rfl⟩
  · have hys : ys = [] := by
      cases ys with
      | nil => rfl
      | cons y l => obtain ⟨g, e1, _⟩ := hr 0 (by simp); simp at e1
    subst hys
    refine wpList_plain hgd fun K hK => ?_
    have hrun := run_append_owned_none (P := Try.prog) w B e.S o.type e.E i0 e.n e.hund hi v xs.length (xs.flatMap e.enc) hown
    have hx2 : a.eval x = .slice none 0 0 := hx
    unfold Oper.wp execOp
    simp only [ho, resolve, invoke, builtin, Sem.run_bind, Sem.run_pure, Result.andThen_ok, List.map_toArray, List.map_cons, List.map_nil, hs, hx2, hrun]
    exact hK _ _ (h v w (by rw [List.append_nil]; exact hown) (Below.refl _ _))
  · have hby := e.hb
    refine wpList_append_own _ hgd s x e.S ho B e.E i0 e.zero e.n e.bytes e.hund hi hz0 hz1 hz2 e.hz e.hn v xs.length (xs.flatMap e.enc) hs hown
      ⟨g, 0, none⟩ ys.length c (ys.flatMap e.enc) hx (flat_len e.enc e.n e.hlen ys) ?_ ?_ (by unfold maxLen; omega) ?_ hB ?_
    · intro j u hj
      have hjl : j < ys.length * e.n := by
        have := (List.getElem?_eq_some_iff.1 hj).1
        rw [flat_len e.enc e.n e.hlen] at this
        exact this
      have hn := e.hn
      have hq : j / e.n < ys.length := Nat.div_lt_of_lt_mul (by rw [Nat.mul_comm]; exact hjl)
      have hm : j % e.n < e.n := Nat.mod_lt _ hn
      have hd : j / e.n * e.n + j % e.n = j := by rw [Nat.mul_comm]; exact Nat.div_add_mod j e.n
      obtain ⟨g', e1, hl, hc⟩ := hr (j / e.n) hq
      cases e1
      have h1 := (hc (j % e.n) hm).1
      rw [hd] at h1
      have h2 := flat_get e.enc e.n e.hlen ys (j / e.n) (j % e.n) hq hm
      rw [hd] at h2
      rw [show (⟨g, 0, none⟩ : Addr).add j = ⟨g, j, none⟩ from by unfold Addr.add; split <;> simp_all, h1, ← h2]
      exact hj
    · intro u hu
      obtain ⟨y, _, hy⟩ := List.mem_flatMap.1 hu
      exact e.hone y u hy
    · exact Nat.le_trans (Nat.mul_le_mul_left _ hby) (by omega)
    · intro v' w' h1 h2 _
      refine h v' w' ?_ (own_below hown h2 hB)
      unfold OwnR
      rw [List.flatMap_append, List.length_append]
      exact h1

theorem Plain.cutF_len (n : ByteArray) (fs : List Fl) : (cutF n fs).length ≤ fs.length := by
  induction fs with
  | nil => simp [cutF]
  | cons f t ih =>
    rw [cutF, List.length_append, List.length_cons]
    split <;> simp <;> omega
/-- What l4Do leaves. -/
def DoPost (fs : List Fl) (o : Dop) (w : World) (e : Ending) (w' : World) : Prop := ∃ v, e = .returned (.tuple #[v, .bool (doF fs o).2]) ∧ OwnR fileE w' w.heap.size v (doF fs o).1 ∧ Below w.heap.size w w'
theorem DoPost.mk {fs : List Fl} {o : Dop} {w w' : World} {v : Value} {r : List Fl} {b : Bool} (h : doF fs o = (r, b)) (h1 : OwnR fileE w' w.heap.size v r) (h2 : Below w.heap.size w w') : DoPost fs o w (.returned (.tuple #[v, .bool b])) w' := by
  unfold DoPost
  rw [h]
  exact ⟨v, rfl, h1, h2⟩

set_option maxRecDepth 10000 in
set_option maxHeartbeats 8000000 in
theorem l4Do_calls (a : Option Addr) (n c : Nat) (fs : List Fl) (o : Dop) (w : World) (hn : fs.length = n) (hn2 : n ≤ 1000000) (hf : FitF fs) (hfo : FitO o) (h : RowAt fileE w a fs) (had : AdOk a c) :
    Calls Try.prog 23 #[.slice a n c, dopV o] w (DoPost fs o w) := by
  obtain ⟨kd, nm, to, dt⟩ := o
  obtain ⟨f1, f2, f3⟩ := hfo
  simp only at f1 f2 f3
  unfold dopV
  simp only
  have hb0 := bel1 w (.cells #[.int .i64 kd, .string nm, .string to, .string dt] 50)
  have HB0 := hide hb0
  have HR0 := hide (h.below hb0)
  have HN := hide hn
  have HF := hide hf
  have HAD := hide had
  have HAT := hide (fun (W : World) (hW : RowAt fileE W a fs) => l4At_calls a n c fs nm W hn (by omega) hW)
  cases hat : atF nm fs with
  | none =>
    rw [hat] at HAT
    by_cases h1 : kd = 1
    · subst h1
      have HV := hide (show doF fs ⟨1, nm, to, dt⟩ = (putF fs nm dt, true) from by unfold doF; rw [if_pos rfl]; simp only [hat])
      clear hat hn hf had h hb0
      go_enter Try.func23, Try.ntmps23
      go_wp2_with fail
      refine (unhide HAT _ (unhide HR0)).mono ?_
      rintro e w1 ⟨rfl, rfl⟩
      unfold atV
      go_wp2_with fail
      refine (l4Put_calls a n c fs nm dt _ (unhide HN) (by omega) (unhide HR0)).mono ?_
      rintro e w2 ⟨v, rfl, hO2, hb2⟩
      have HO2 := hide (hO2.le (B' := w.heap.size) (by simp))
      have HB2 := hide (belOn (unhide HB0) hb2)
      clear hO2 hb2
      go_wp2_with fail
      go_ret2
      exact DoPost.mk (unhide HV) (unhide HO2) (unhide HB2)
    · have b1 : (kd == 1) = false := by simpa using h1
      have HV := hide (show doF fs ⟨kd, nm, to, dt⟩ = (fs, false) from by unfold doF; rw [if_neg h1]; simp only [hat])
      have hz1 : (w.alloc (.cells #[.int .i64 kd, .string nm, .string to, .string dt] 50)).heap.size = w.heap.size + 1 := by simp
      have hoe := ownR_empty fileE (w.alloc (.cells #[.int .i64 kd, .string nm, .string to, .string dt] 50)) w.heap.size (by simp)
      rw [hz1] at hoe
      have HO := hide hoe
      clear hz1 hoe
      have HR1 := hide ((unhide HR0).below (bel1 _ (.cells #[] 65)))
      have HB1 := hide (belOn (unhide HB0) (bel1 _ (.cells #[] 65)))
      clear hat hn hf had h hb0
      go_enter Try.func23, Try.ntmps23
      go_wp2_with fail
      refine (unhide HAT _ (unhide HR0)).mono ?_
      rintro e w1 ⟨rfl, rfl⟩
      unfold atV
      go_wp2_with (at_builtin; go_must (refine appG (e := fileE) rfl _ _ rfl (unhide HO) rfl a n c rfl (unhide HN) (unhide HR1) (unhide HAD) (by simp; omega) (by simp; omega) ?_); intro v' w6 hown6 hb6)
      go_ret2
      exact DoPost.mk (unhide HV) hown6 ((unhide HB1).trans hb6)
  | some i =>
    rw [hat] at HAT
    obtain ⟨hil, hin⟩ := atF_lt nm fs i hat
    have hgd : fs.getD i (⟨#[]⟩, ⟨#[]⟩) = fs[i] := by rw [List.getD, List.getElem?_eq_getElem hil, Option.getD_some]
    have hfi := hf fs[i] (by simp)
    obtain ⟨g, e1, l1, p0, p1⟩ := (unhide HR0).file i hil
    have HCL := hide (fun (W : World) (hW : Below w.heap.size w W) => (h.below hW).file i hil)
    by_cases h1 : kd = 1
    · subst h1
      have HV := hide (show doF fs ⟨1, nm, to, dt⟩ = (putF fs nm (fs[i].2 ++ dt), true) from by unfold doF; rw [if_pos rfl]; simp only [hat, hgd])
      generalize fs[i] = f at p0 p1 hfi HV HCL
      obtain ⟨fn, fd⟩ := f
      simp only at p0 p1 hfi HV
      have i0 : (0 : Int) ≤ (i : Int) := by omega
      have i1 : (i : Int) < (n : Int) := by omega
      have hzz : (fd ++ dt).size ≤ 3000000000000 := by rw [ByteArray.size_append]; omega
      subst e1
      clear hat hn hf had h hb0 hgd hin hil
      go_enter Try.func23, Try.ntmps23
      go_wp2_with fail
      refine (unhide HAT _ (unhide HR0)).mono ?_
      rintro e w1 ⟨rfl, rfl⟩
      unfold atV
      go_wp2_with fail
      refine (l4Put_calls _ n c fs nm (fd ++ dt) _ (unhide HN) (by omega) (unhide HR0)).mono ?_
      rintro e w2 ⟨v, rfl, hO2, hb2⟩
      have HO2 := hide (hO2.le (B' := w.heap.size) (by simp))
      have HB2 := hide (belOn (unhide HB0) hb2)
      clear hO2 hb2
      go_wp2_with fail
      go_ret2
      exact DoPost.mk (unhide HV) (unhide HO2) (unhide HB2)
    · have b1 : (kd == 1) = false := by simpa using h1
      by_cases h2 : kd = 2
      · subst h2
        have HV := hide (show doF fs ⟨2, nm, to, dt⟩ = (putF (cutF nm fs) to fs[i].2, true) from by unfold doF; rw [if_neg h1]; simp only [hat, hgd]; simp)
        generalize fs[i] = f at p0 p1 hfi HV HCL
        obtain ⟨fn, fd⟩ := f
        simp only at p0 p1 hfi HV
        have i0 : (0 : Int) ≤ (i : Int) := by omega
        have i1 : (i : Int) < (n : Int) := by omega
        subst e1
        clear hat hn hf had h hb0 hgd hin hil p0 p1 l1
        go_enter Try.func23, Try.ntmps23
        go_wp2_with fail
        refine (unhide HAT _ (unhide HR0)).mono ?_
        rintro e w1 ⟨rfl, rfl⟩
        unfold atV
        go_wp2_with fail
        refine (l4Cut_calls _ n c fs nm _ (unhide HN) (by omega) (unhide HR0)).mono ?_
        rintro e w2 ⟨v, rfl, hO2, hb2⟩
        have HB2 := hide (belOn (unhide HB0) hb2)
        have q0 : w2.cell? ⟨w.heap.size, 0, none⟩ = some (.int .i64 2) := bcl hb2 (by simp) (by simp [go_sem])
        have q2 : w2.cell? ⟨w.heap.size, 2, none⟩ = some (.string to) := bcl hb2 (by simp) (by simp [go_sem])
        obtain ⟨g', e', l', r0, r1⟩ := unhide HCL w2 (unhide HB2)
        obtain rfl : g = g' := by simpa using e'
        obtain ⟨av, cv, hv⟩ := hO2.form
        subst hv
        have hcl : (cutF nm fs).length ≤ n := by rw [← unhide HN]; exact cutF_len nm fs
        have HDR := hide (belDrew (Below.refl w2.heap.size w2))
        have HPT := hide (l4Put_calls av (cutF nm fs).length cv (cutF nm fs) to fd w2.drew rfl (by omega) (hO2.at.below (unhide HDR)))
        have hz2 : w.heap.size ≤ w2.heap.size := (unhide HB2).size
        clear hO2 hb2 e'
        go_wp2_with fail
        go_region_with (go_at_call 50; refine (unhide HPT).mono ?_; rintro e w3 ⟨v3, rfl, hO3, hb3⟩; have HO3 := hide (hO3.le (B' := w.heap.size) hz2); have HB3 := hide (belOn (belOn (unhide HB2) (unhide HDR)) hb3))
        all_goals (try go_wp2_with fail)
        all_goals go_ret2
        all_goals exact DoPost.mk (unhide HV) (unhide HO3) (unhide HB3)
      · have b2 : (kd == 2) = false := by simpa using h2
        have HV := hide (show doF fs ⟨kd, nm, to, dt⟩ = (cutF nm fs, true) from by unfold doF; rw [if_neg h1]; simp only [hat]; rw [if_neg h2])
        have i0 : (0 : Int) ≤ (i : Int) := by omega
        clear hat hn hf had h hb0 hgd hin p0 p1 hfi e1 l1 HCL
        go_enter Try.func23, Try.ntmps23
        go_wp2_with fail
        refine (unhide HAT _ (unhide HR0)).mono ?_
        rintro e w1 ⟨rfl, rfl⟩
        unfold atV
        go_wp2_with fail
        refine (l4Cut_calls a n c fs nm _ (unhide HN) (by omega) (unhide HR0)).mono ?_
        rintro e w2 ⟨v, rfl, hO2, hb2⟩
        have HO2 := hide (hO2.le (B' := w.heap.size) (by simp))
        have HB2 := hide (belOn (unhide HB0) hb2)
        have q0 : w2.cell? ⟨w.heap.size, 0, none⟩ = some (.int .i64 kd) := bcl hb2 (by simp) (by simp [go_sem])
        clear hO2 hb2
        go_wp2_with fail
        go_ret2
        exact DoPost.mk (unhide HV) (unhide HO2) (unhide HB2)
end Go.Proofs.Ytknpccpfjclngaa
