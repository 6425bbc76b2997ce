/- Texts of one kind, put together. -/
import Derived.Test.YtakalfckhailjaaGreatGAL
import Derived.Test.YtakalfckhailjaaGreatGAF

/- The specification's ops: which are of their form, what they do. -/
namespace Go.Proofs.YtakalfckhailjaaGreat
open Go.RowKit Plain
set_option linter.unusedVariables false

/-- An op's value. -/
def Plain.dopV (o : Dop) : Value := .agg #[.int .i64 o.kind, .string o.name, .string o.to, .string o.data]
def Plain.FitO (o : Dop) : Prop := o.name.size ≤ 1000000000000 ∧ o.to.size ≤ 1000000000000 ∧ o.data.size ≤ 1000000000000

set_option maxHeartbeats 4000000 in
theorem l4Form_calls (o : Dop) (w : World) (hf : FitO o) :
    Calls Tryz.prog 69 #[dopV o] w fun e w' => e = .returned (.bool (formB o)) ∧ Below w.heap.size w w' := by
  obtain ⟨kd, nm, to, dt⟩ := o
  obtain ⟨f1, f2, f3⟩ := hf
  simp only at f1 f2 f3
  unfold dopV formB
  simp only
  have HB0 := hide (bel1 w (.cells #[.int .i64 kd, .string nm, .string to, .string dt] 50))
  cases h1 : (decide (1 ≤ kd) && decide (kd ≤ 3)) with
  | false =>
    have H1 := hide h1
    clear h1
    show Calls Tryz.prog 69 _ w fun e w' => e = .returned (.bool false) ∧ Below w.heap.size w w'
    go_enter Tryz.func69, Tryz.ntmps69
    go_wp2_with (go_at_call 28; refine (l1In_calls _ 1 3 _).mono ?_; rintro e w1 ⟨rfl, rfl⟩; try rw [unhide H1])
    go_ret
    exact ⟨rfl, unhide HB0⟩
  | true =>
    have H1 := hide h1
    clear h1
    cases h2 : nmB nm with
    | false =>
      have H2 := hide h2
      clear h2
      show Calls Tryz.prog 69 _ w fun e w' => e = .returned (.bool false) ∧ Below w.heap.size w w'
      go_enter Tryz.func69, Tryz.ntmps69
      go_wp2_with (first | (go_at_call 28; refine (l1In_calls _ 1 3 _).mono ?_; rintro e w1 ⟨rfl, rfl⟩; try rw [unhide H1]) | (go_at_call 102; refine (l4Name_calls nm _ f1).mono ?_; rintro e w1 ⟨rfl, rfl⟩; rw [unhide H2]))
      go_ret
      exact ⟨rfl, unhide HB0⟩
    | true =>
      have H2 := hide h2
      clear h2
      by_cases h3 : kd = 2
      · subst h3
        rw [if_pos rfl]
        cases h4 : nmB to with
        | false =>
          have H4 := hide h4
          clear h4
          show Calls Tryz.prog 69 _ w fun e w' => e = .returned (.bool false) ∧ Below w.heap.size w w'
          go_enter Tryz.func69, Tryz.ntmps69
          go_wp2_with (first | (go_at_call 28; refine (l1In_calls _ 1 3 _).mono ?_; rintro e w1 ⟨rfl, rfl⟩; try rw [unhide H1]) | (go_at_call_of 102 nm; refine (l4Name_calls nm _ f1).mono ?_; rintro e w1 ⟨rfl, rfl⟩; rw [unhide H2]) | (go_at_call_of 102 to; refine (l4Name_calls to _ f2).mono ?_; rintro e w1 ⟨rfl, rfl⟩; rw [unhide H4]))
          go_ret
          exact ⟨rfl, unhide HB0⟩
        | true =>
          have H4 := hide h4
          clear h4
          cases h5 : emp dt with
          | true =>
            unfold emp at h5
            show Calls Tryz.prog 69 _ w fun e w' => e = .returned (.bool true) ∧ Below w.heap.size w w'
            go_enter Tryz.func69, Tryz.ntmps69
            go_wp2_with (first | (go_at_call 28; refine (l1In_calls _ 1 3 _).mono ?_; rintro e w1 ⟨rfl, rfl⟩; try rw [unhide H1]) | (go_at_call_of 102 nm; refine (l4Name_calls nm _ f1).mono ?_; rintro e w1 ⟨rfl, rfl⟩; rw [unhide H2]) | (go_at_call_of 102 to; refine (l4Name_calls to _ f2).mono ?_; rintro e w1 ⟨rfl, rfl⟩; rw [unhide H4]))
            go_ret
            exact ⟨rfl, unhide HB0⟩
          | false =>
            unfold emp at h5
            show Calls Tryz.prog 69 _ w fun e w' => e = .returned (.bool false) ∧ Below w.heap.size w w'
            go_enter Tryz.func69, Tryz.ntmps69
            go_wp2_with (first | (go_at_call 28; refine (l1In_calls _ 1 3 _).mono ?_; rintro e w1 ⟨rfl, rfl⟩; try rw [unhide H1]) | (go_at_call_of 102 nm; refine (l4Name_calls nm _ f1).mono ?_; rintro e w1 ⟨rfl, rfl⟩; rw [unhide H2]) | (go_at_call_of 102 to; refine (l4Name_calls to _ f2).mono ?_; rintro e w1 ⟨rfl, rfl⟩; rw [unhide H4]))
            go_ret
            exact ⟨rfl, unhide HB0⟩
      · rw [if_neg h3]
        have b3 : (kd == 2) = false := by simpa using h3
        cases h4 : emp to with
        | false =>
          unfold emp at h4
          show Calls Tryz.prog 69 _ w fun e w' => e = .returned (.bool false) ∧ Below w.heap.size w w'
          go_enter Tryz.func69, Tryz.ntmps69
          go_wp2_with (first | (go_at_call 28; refine (l1In_calls _ 1 3 _).mono ?_; rintro e w1 ⟨rfl, rfl⟩; try rw [unhide H1]) | (go_at_call 102; refine (l4Name_calls nm _ f1).mono ?_; rintro e w1 ⟨rfl, rfl⟩; rw [unhide H2]))
          go_ret
          exact ⟨rfl, unhide HB0⟩
        | true =>
          unfold emp at h4
          by_cases h5 : kd = 1
          · subst h5
            show Calls Tryz.prog 69 _ w fun e w' => e = .returned (.bool true) ∧ Below w.heap.size w w'
            go_enter Tryz.func69, Tryz.ntmps69
            go_wp2_with (first | (go_at_call 28; refine (l1In_calls _ 1 3 _).mono ?_; rintro e w1 ⟨rfl, rfl⟩; try rw [unhide H1]) | (go_at_call 102; refine (l4Name_calls nm _ f1).mono ?_; rintro e w1 ⟨rfl, rfl⟩; rw [unhide H2]))
            go_ret
            exact ⟨rfl, unhide HB0⟩
          · have b5 : (kd == 1) = false := by simpa using h5
            rw [decide_eq_false h5]
            cases h6 : emp dt with
            | true =>
              unfold emp at h6
              show Calls Tryz.prog 69 _ w fun e w' => e = .returned (.bool true) ∧ Below w.heap.size w w'
              go_enter Tryz.func69, Tryz.ntmps69
              go_wp2_with (first | (go_at_call 28; refine (l1In_calls _ 1 3 _).mono ?_; rintro e w1 ⟨rfl, rfl⟩; try rw [unhide H1]) | (go_at_call 102; refine (l4Name_calls nm _ f1).mono ?_; rintro e w1 ⟨rfl, rfl⟩; rw [unhide H2]))
              go_ret
              exact ⟨rfl, unhide HB0⟩
            | false =>
              unfold emp at h6
              show Calls Tryz.prog 69 _ w fun e w' => e = .returned (.bool false) ∧ Below w.heap.size w w'
              go_enter Tryz.func69, Tryz.ntmps69
              go_wp2_with (first | (go_at_call 28; refine (l1In_calls _ 1 3 _).mono ?_; rintro e w1 ⟨rfl, rfl⟩; try rw [unhide H1]) | (go_at_call 102; refine (l4Name_calls nm _ f1).mono ?_; rintro e w1 ⟨rfl, rfl⟩; rw [unhide H2]))
              go_ret
              exact ⟨rfl, unhide HB0⟩

namespace Plain
theorem sameF_len (s t : List Fl) (h : s.length ≠ t.length) : sameF s t = false := by
  induction s generalizing t with
  | nil =>
    cases t with
    | nil => simp at h
    | cons g t => rfl
  | cons f s ih =>
    cases t with
    | nil => rfl
    | cons g t => rw [sameF, ih t (by simpa using h)]; simp
theorem sameF_step (s t : List Fl) (k : Nat) (h : k < s.length) (h2 : k < t.length) : sameF (s.drop k) (t.drop k) = ((eqN s[k].1 t[k].1 && eqN s[k].2 t[k].2) && sameF (s.drop (k + 1)) (t.drop (k + 1))) := by
  rw [List.drop_eq_getElem_cons h, List.drop_eq_getElem_cons h2, sameF]
end Plain

set_option maxHeartbeats 4000000 in
theorem l4Same_calls (a1 a2 : Option Addr) (n1 n2 c1 c2 : Nat) (s t : List Fl) (w : World) (hs : s.length = n1) (ht : t.length = n2) (hn : n1 ≤ 100000000) (hn2 : n2 ≤ 100000000) (h1 : RowAt fileE w a1 s) (h2 : RowAt fileE w a2 t) :
    Calls Tryz.prog 70 #[.slice a1 n1 c1, .slice a2 n2 c2] w fun e w' => e = .returned (.bool (sameF s t)) ∧ Below w.heap.size w w' := by
  by_cases hl : n1 = n2
  · subst hl
    have H1 := hide h1
    have H2 := hide h2
    have HS := hide hs
    have HT := hide ht
    clear h1 h2 hs ht
    go_enter Tryz.func70, Tryz.ntmps70
    go_wp2_with fail
    go_loopw [5] (fun i wr => ∃ k : Nat, i = .int .i64 k ∧ k ≤ n1 ∧ Hid (sameF (s.drop k) (t.drop k) = sameF s t) ∧ Hid (Below w.heap.size w wr)) (fun i _ => n1 - (intOf i).toNat)
    case atStart => exact ⟨0, rfl, by omega, hide rfl, hide (Below.refl _ _)⟩
    case round =>
      obtain ⟨k, rfl, hk, HR, HB⟩ := hrel
      by_cases hkn : k < n1
      · have k1 : k < s.length := by rw [unhide HS]; exact hkn
        have k2 : k < t.length := by rw [unhide HT]; exact hkn
        obtain ⟨g, e1, l1, p0, p1⟩ := ((unhide H1).below (unhide HB)).file k k1
        obtain ⟨g2, e2, l2, q0, q1⟩ := ((unhide H2).below (unhide HB)).file k k2
        have hst := sameF_step s t k k1 k2
        generalize s[k] = f at p0 p1 hst
        generalize t[k] = f2 at q0 q1 hst
        obtain ⟨fn, fd⟩ := f
        obtain ⟨gn, gd⟩ := f2
        simp only at p0 p1 q0 q1 hst
        subst e1 e2
        have i0 : (0 : Int) ≤ (k : Int) := by omega
        have i1 : (k : Int) < (n1 : Int) := by omega
        cases hx : eqN fn gn with
        | false =>
          have HF := hide (show sameF s t = false from by rw [← unhide HR, hst, hx]; rfl)
          unfold eqN at hx
          clear hst HR
          go_wp2_with fail
          go_quiet (fail)
          all_goals (try go_wp2_with fail)
          all_goals go_ret
          all_goals exact ⟨by rw [unhide HF]; rfl, belN (unhide HB) _⟩
        | true =>
          cases hy : eqN fd gd with
          | false =>
            have HF := hide (show sameF s t = false from by rw [← unhide HR, hst, hx, hy]; rfl)
            unfold eqN at hx hy
            clear hst HR
            go_wp2_with fail
            go_quiet (fail)
            all_goals (try go_wp2_with fail)
            all_goals go_ret
            all_goals exact ⟨by rw [unhide HF]; rfl, belN (unhide HB) _⟩
          | true =>
            have HF := hide (show sameF (s.drop (k + 1)) (t.drop (k + 1)) = sameF s t from by rw [← unhide HR, hst, hx, hy]; rfl)
            unfold eqN at hx hy
            clear hst HR
            go_wp2_with fail
            go_quiet (fail)
            all_goals (try go_wp2_with fail)
            all_goals exact ⟨⟨k + 1, by go_num, by omega, HF, hide (belN (unhide HB) _)⟩, by simp [intOf]; omega⟩
      · have HF := unhide HR
        rw [List.drop_of_length_le (by rw [unhide HS]; omega), List.drop_of_length_le (by rw [unhide HT]; omega)] at HF
        have HFF := hide HF
        clear HR HF
        go_wp2_with fail
        go_ret
        exact ⟨by rw [← unhide HFF]; rfl, unhide HB⟩
  · rw [sameF_len s t (by omega)]
    have b : ((n1 : Int) == (n2 : Int)) = false := by simp; omega
    clear h1 h2 hs ht
    go_enter Tryz.func70, Tryz.ntmps70
    go_wp2_with fail
    go_ret
    exact ⟨rfl, Below.refl _ _⟩
end Go.Proofs.YtakalfckhailjaaGreat


/- The specification's disks: what an op does, which disks are right. -/
namespace Go.Proofs.YtakalfckhailjaaGreat
open Go.RowKit Plain
set_option linter.unusedVariables false

/-- How a slice's address may be. -/
def Plain.AdOk (ad : Option Addr) (c : Nat) : Prop := (ad = none ∧ c = 0) ∨ ∃ g, ad = some ⟨g, 0, none⟩
theorem OwnR.ad {α : Type} {e : Elem α} {W : World} {B : Nat} {ad : Option Addr} {n c : Nat} {xs : List α} (h : OwnR e W B (.slice ad n c) xs) : AdOk ad c := by
  rcases h.2 with ⟨e1, _⟩ | ⟨g, cap, cur, e1, _⟩
  · simp at e1; exact .inl ⟨e1.1, e1.2.2⟩
  · simp at e1; exact .inr ⟨g, e1.1⟩

theorem appG {α : Type} {e : Elem α} {ops : Array Oper} {rest : List Oper} {o : Oper} {a : Act} {Q : Exit → Act → World → Prop} (hgd : o.guard = none) (s x : Operand)
    (ho : o.op = .call { callee := .builtin .append, args := #[s, x], argTypes := #[e.S, e.S] })
    {w : World} {B : Nat} {v : Value} {xs ys : List α} (hown : OwnR e w B v xs) (hs : a.eval s = v) (ad : Option Addr) (m c : Nat) (hx : a.eval x = .slice ad m c) (hy : ys.length = m) (hr : RowAt e w ad ys) (had : AdOk ad c)
    (hlen : xs.length + m < 100000000) (hB : B ≤ w.heap.size)
    (h : ∀ v' w', OwnR e w' B v' (xs ++ ys) → Below B w w' → wpList Tryz.prog ops Q rest (a.put o.dst v') w') :
    wpList Tryz.prog ops Q (o :: rest) a w := by
  obtain ⟨i0, hi, hz0, hz1, hz2⟩ := info_parts e.hinfo
  subst hy
  rcases had with ⟨rfl, rfl⟩ | ⟨g, rfl⟩
  · have hys : ys = [] := by
      cases ys with
      | nil => rfl
      | cons y l => obtain ⟨g, e1, _⟩ := hr 0 (by simp); simp at e1
    subst hys
    refine wpList_plain hgd fun K hK => ?_
    have hrun := run_append_owned_none (P := Tryz.prog) w B e.S o.type e.E i0 e.n e.hund hi v xs.length (xs.flatMap e.enc) hown
    have hx2 : a.eval x = .slice none 0 0 := hx
    unfold Oper.wp execOp
    simp only [ho, resolve, invoke, builtin, Sem.run_bind, Sem.run_pure, Result.andThen_ok, List.map_toArray, List.map_cons, List.map_nil, hs, hx2, hrun]
    exact hK _ _ (h v w (by rw [List.append_nil]; exact hown) (Below.refl _ _))
  · have hby := e.hb
    refine wpList_append_own _ hgd s x e.S ho B e.E i0 e.zero e.n e.bytes e.hund hi hz0 hz1 hz2 e.hz e.hn v xs.length (xs.flatMap e.enc) hs hown
      ⟨g, 0, none⟩ ys.length c (ys.flatMap e.enc) hx (flat_len e.enc e.n e.hlen ys) ?_ ?_ (by unfold maxLen; omega) ?_ hB ?_
    · intro j u hj
      have hjl : j < ys.length * e.n := by
        have := (List.getElem?_eq_some_iff.1 hj).1
        rw [flat_len e.enc e.n e.hlen] at this
        exact this
      have hn := e.hn
      have hq : j / e.n < ys.length := Nat.div_lt_of_lt_mul (by rw [Nat.mul_comm]; exact hjl)
      have hm : j % e.n < e.n := Nat.mod_lt _ hn
      have hd : j / e.n * e.n + j % e.n = j := by rw [Nat.mul_comm]; exact Nat.div_add_mod j e.n
      obtain ⟨g', e1, hl, hc⟩ := hr (j / e.n) hq
      cases e1
      have h1 := (hc (j % e.n) hm).1
      rw [hd] at h1
      have h2 := flat_get e.enc e.n e.hlen ys (j / e.n) (j % e.n) hq hm
      rw [hd] at h2
      rw [show (⟨g, 0, none⟩ : Addr).add j = ⟨g, j, none⟩ from by unfold Addr.add; split <;> simp_all, h1, ← h2]
      exact hj
    · intro u hu
      obtain ⟨y, _, hy⟩ := List.mem_flatMap.1 hu
      exact e.hone y u hy
    · exact Nat.le_trans (Nat.mul_le_mul_left _ hby) (by omega)
    · intro v' w' h1 h2 _
      refine h v' w' ?_ (own_below hown h2 hB)
      unfold OwnR
      rw [List.flatMap_append, List.length_append]
      exact h1

theorem Plain.cutF_len (n : ByteArray) (fs : List Fl) : (cutF n fs).length ≤ fs.length := by
  induction fs with
  | nil => simp [cutF]
  | cons f t ih =>
    rw [cutF, List.length_append, List.length_cons]
    split <;> simp <;> omega
/-- What l4Do leaves. -/
def DoPost (fs : List Fl) (o : Dop) (w : World) (e : Ending) (w' : World) : Prop := ∃ v, e = .returned (.tuple #[v, .bool (doF fs o).2]) ∧ OwnR fileE w' w.heap.size v (doF fs o).1 ∧ Below w.heap.size w w'
theorem DoPost.mk {fs : List Fl} {o : Dop} {w w' : World} {v : Value} {r : List Fl} {b : Bool} (h : doF fs o = (r, b)) (h1 : OwnR fileE w' w.heap.size v r) (h2 : Below w.heap.size w w') : DoPost fs o w (.returned (.tuple #[v, .bool b])) w' := by
  unfold DoPost
  rw [h]
  exact ⟨v, rfl, h1, h2⟩

set_option maxRecDepth 10000 in
set_option maxHeartbeats 8000000 in
theorem l4Do_calls (a : Option Addr) (n c : Nat) (fs : List Fl) (o : Dop) (w : World) (hn : fs.length = n) (hn2 : n ≤ 1000000) (hf : FitF fs) (hfo : FitO o) (h : RowAt fileE w a fs) (had : AdOk a c) :
    Calls Tryz.prog 68 #[.slice a n c, dopV o] w (DoPost fs o w) := by
  obtain ⟨kd, nm, to, dt⟩ := o
  obtain ⟨f1, f2, f3⟩ := hfo
  simp only at f1 f2 f3
  unfold dopV
  simp only
  have hb0 := bel1 w (.cells #[.int .i64 kd, .string nm, .string to, .string dt] 50)
  have HB0 := hide hb0
  have HR0 := hide (h.below hb0)
  have HN := hide hn
  have HF := hide hf
  have HAD := hide had
  have HAT := hide (fun (W : World) (hW : RowAt fileE W a fs) => l4At_calls a n c fs nm W hn (by omega) hW)
  cases hat : atF nm fs with
  | none =>
    rw [hat] at HAT
    by_cases h1 : kd = 1
    · subst h1
      have HV := hide (show doF fs ⟨1, nm, to, dt⟩ = (putF fs nm dt, true) from by unfold doF; rw [if_pos rfl]; simp only [hat])
      clear hat hn hf had h hb0
      go_enter Tryz.func68, Tryz.ntmps68
      go_wp2_with fail
      refine (unhide HAT _ (unhide HR0)).mono ?_
      rintro e w1 ⟨rfl, rfl⟩
      unfold atV
      go_wp2_with fail
      refine (l4Put_calls a n c fs nm dt _ (unhide HN) (by omega) (unhide HR0)).mono ?_
      rintro e w2 ⟨v, rfl, hO2, hb2⟩
      have HO2 := hide (hO2.le (B' := w.heap.size) (by simp))
      have HB2 := hide (belOn (unhide HB0) hb2)
      clear hO2 hb2
      go_wp2_with fail
      go_ret2
      exact DoPost.mk (unhide HV) (unhide HO2) (unhide HB2)
    · have b1 : (kd == 1) = false := by simpa using h1
      have HV := hide (show doF fs ⟨kd, nm, to, dt⟩ = (fs, false) from by unfold doF; rw [if_neg h1]; simp only [hat])
      have hz1 : (w.alloc (.cells #[.int .i64 kd, .string nm, .string to, .string dt] 50)).heap.size = w.heap.size + 1 := by simp
      have hoe := ownR_empty fileE (w.alloc (.cells #[.int .i64 kd, .string nm, .string to, .string dt] 50)) w.heap.size (by simp)
      rw [hz1] at hoe
      have HO := hide hoe
      clear hz1 hoe
      have HR1 := hide ((unhide HR0).below (bel1 _ (.cells #[] 67)))
      have HB1 := hide (belOn (unhide HB0) (bel1 _ (.cells #[] 67)))
      clear hat hn hf had h hb0
      go_enter Tryz.func68, Tryz.ntmps68
      go_wp2_with fail
      refine (unhide HAT _ (unhide HR0)).mono ?_
      rintro e w1 ⟨rfl, rfl⟩
      unfold atV
      go_wp2_with (at_builtin; go_must (refine appG (e := fileE) rfl _ _ rfl (unhide HO) rfl a n c rfl (unhide HN) (unhide HR1) (unhide HAD) (by simp; omega) (by simp; omega) ?_); intro v' w6 hown6 hb6)
      go_ret2
      exact DoPost.mk (unhide HV) hown6 ((unhide HB1).trans hb6)
  | some i =>
    rw [hat] at HAT
    obtain ⟨hil, hin⟩ := atF_lt nm fs i hat
    have hgd : fs.getD i (⟨#[]⟩, ⟨#[]⟩) = fs[i] := by rw [List.getD, List.getElem?_eq_getElem hil, Option.getD_some]
    have hfi := hf fs[i] (by simp)
    obtain ⟨g, e1, l1, p0, p1⟩ := (unhide HR0).file i hil
    have HCL := hide (fun (W : World) (hW : Below w.heap.size w W) => (h.below hW).file i hil)
    by_cases h1 : kd = 1
    · subst h1
      have HV := hide (show doF fs ⟨1, nm, to, dt⟩ = (putF fs nm (fs[i].2 ++ dt), true) from by unfold doF; rw [if_pos rfl]; simp only [hat, hgd])
      generalize fs[i] = f at p0 p1 hfi HV HCL
      obtain ⟨fn, fd⟩ := f
      simp only at p0 p1 hfi HV
      have i0 : (0 : Int) ≤ (i : Int) := by omega
      have i1 : (i : Int) < (n : Int) := by omega
      have hzz : (fd ++ dt).size ≤ 3000000000000 := by rw [ByteArray.size_append]; omega
      subst e1
      clear hat hn hf had h hb0 hgd hin hil
      go_enter Tryz.func68, Tryz.ntmps68
      go_wp2_with fail
      refine (unhide HAT _ (unhide HR0)).mono ?_
      rintro e w1 ⟨rfl, rfl⟩
      unfold atV
      go_wp2_with fail
      refine (l4Put_calls _ n c fs nm (fd ++ dt) _ (unhide HN) (by omega) (unhide HR0)).mono ?_
      rintro e w2 ⟨v, rfl, hO2, hb2⟩
      have HO2 := hide (hO2.le (B' := w.heap.size) (by simp))
      have HB2 := hide (belOn (unhide HB0) hb2)
      clear hO2 hb2
      go_wp2_with fail
      go_ret2
      exact DoPost.mk (unhide HV) (unhide HO2) (unhide HB2)
    · have b1 : (kd == 1) = false := by simpa using h1
      by_cases h2 : kd = 2
      · subst h2
        have HV := hide (show doF fs ⟨2, nm, to, dt⟩ = (putF (cutF nm fs) to fs[i].2, true) from by unfold doF; rw [if_neg h1]; simp only [hat, hgd]; simp)
        generalize fs[i] = f at p0 p1 hfi HV HCL
        obtain ⟨fn, fd⟩ := f
        simp only at p0 p1 hfi HV
        have i0 : (0 : Int) ≤ (i : Int) := by omega
        have i1 : (i : Int) < (n : Int) := by omega
        subst e1
        clear hat hn hf had h hb0 hgd hin hil p0 p1 l1
        go_enter Tryz.func68, Tryz.ntmps68
        go_wp2_with fail
        refine (unhide HAT _ (unhide HR0)).mono ?_
        rintro e w1 ⟨rfl, rfl⟩
        unfold atV
        go_wp2_with fail
        refine (l4Cut_calls _ n c fs nm _ (unhide HN) (by omega) (unhide HR0)).mono ?_
        rintro e w2 ⟨v, rfl, hO2, hb2⟩
        have HB2 := hide (belOn (unhide HB0) hb2)
        have q0 : w2.cell? ⟨w.heap.size, 0, none⟩ = some (.int .i64 2) := bcl hb2 (by simp) (by simp [go_sem])
        have q2 : w2.cell? ⟨w.heap.size, 2, none⟩ = some (.string to) := bcl hb2 (by simp) (by simp [go_sem])
        obtain ⟨g', e', l', r0, r1⟩ := unhide HCL w2 (unhide HB2)
        obtain rfl : g = g' := by simpa using e'
        obtain ⟨av, cv, hv⟩ := hO2.form
        subst hv
        have hcl : (cutF nm fs).length ≤ n := by rw [← unhide HN]; exact cutF_len nm fs
        have HDR := hide (belDrew (Below.refl w2.heap.size w2))
        have HPT := hide (l4Put_calls av (cutF nm fs).length cv (cutF nm fs) to fd w2.drew rfl (by omega) (hO2.at.below (unhide HDR)))
        have hz2 : w.heap.size ≤ w2.heap.size := (unhide HB2).size
        clear hO2 hb2 e'
        go_wp2_with fail
        go_region_with (go_at_call 103; refine (unhide HPT).mono ?_; rintro e w3 ⟨v3, rfl, hO3, hb3⟩; have HO3 := hide (hO3.le (B' := w.heap.size) hz2); have HB3 := hide (belOn (belOn (unhide HB2) (unhide HDR)) hb3))
        all_goals (try go_wp2_with fail)
        all_goals go_ret2
        all_goals exact DoPost.mk (unhide HV) (unhide HO3) (unhide HB3)
      · have b2 : (kd == 2) = false := by simpa using h2
        have HV := hide (show doF fs ⟨kd, nm, to, dt⟩ = (cutF nm fs, true) from by unfold doF; rw [if_neg h1]; simp only [hat]; rw [if_neg h2])
        have i0 : (0 : Int) ≤ (i : Int) := by omega
        clear hat hn hf had h hb0 hgd hin p0 p1 hfi e1 l1 HCL
        go_enter Tryz.func68, Tryz.ntmps68
        go_wp2_with fail
        refine (unhide HAT _ (unhide HR0)).mono ?_
        rintro e w1 ⟨rfl, rfl⟩
        unfold atV
        go_wp2_with fail
        refine (l4Cut_calls a n c fs nm _ (unhide HN) (by omega) (unhide HR0)).mono ?_
        rintro e w2 ⟨v, rfl, hO2, hb2⟩
        have HO2 := hide (hO2.le (B' := w.heap.size) (by simp))
        have HB2 := hide (belOn (unhide HB0) hb2)
        have q0 : w2.cell? ⟨w.heap.size, 0, none⟩ = some (.int .i64 kd) := bcl hb2 (by simp) (by simp [go_sem])
        clear hO2 hb2
        go_wp2_with fail
        go_ret2
        exact DoPost.mk (unhide HV) (unhide HO2) (unhide HB2)
end Go.Proofs.YtakalfckhailjaaGreat

