/- Texts of one kind, put together. -/
import Derived.Test.YtakalfckhailjaaGreatGAP
import Derived.Maps.RangeWalk
import Derived.Sort.KeysCollected

/- The program's names of files, right files and changes by their contracts. -/
namespace Go.Proofs.YtakalfckhailjaaGreat
open Go.RowKit Go.Maps Plain
set_option linter.unusedVariables false

theorem fileNameOk_calls (s : ByteArray) (w : World) (hs : s.size ≤ 1000000000000) :
    Calls Tryz.prog 107 #[.string s] w fun e w' => e = .returned (.bool (nmB s)) ∧ w = w' := by
  unfold nmB
  by_cases h1 : 1 ≤ s.size
  · by_cases h2 : s.size ≤ 100
    · rw [decide_eq_true h1, decide_eq_true h2]
      have h3 : decide ((s.size : Int) ≤ 100) = true := decide_eq_true (by omega)
      go_enter Tryz.func107, Tryz.ntmps107
      go_wp2
      go_ret
      exact ⟨rfl, rfl⟩
    · rw [decide_eq_true h1, decide_eq_false h2]
      have h3 : decide ((s.size : Int) ≤ 100) = false := decide_eq_false (by omega)
      go_enter Tryz.func107, Tryz.ntmps107
      go_wp2
      go_ret
      exact ⟨rfl, rfl⟩
  · rw [decide_eq_false h1]
    go_enter Tryz.func107, Tryz.ntmps107
    go_wp2
    go_ret
    exact ⟨rfl, rfl⟩
theorem fileName_quiet (s : ByteArray) (w : World) (n : Nat) (b : Bool) (hs : s.size ≤ 1000000000000) (hb : nmB s = b) :
    Calls Tryz.prog 107 #[.string s] (w.drewN n) fun e w'' => e = .returned (.bool b) ∧ ∃ m, w'' = w.drewN m := by
  subst hb
  refine (fileNameOk_calls s _ hs).mono ?_
  rintro e w2 ⟨rfl, rfl⟩
  exact ⟨rfl, n, rfl⟩

/-- The change that an op makes. -/
def Plain.chV (o : Dop) : Value :=
  if nmB o.name then
    (if o.kind = 1 then .iface 135 (.agg #[.string o.name, .string o.data])
     else if o.kind = 2 then .iface 167 (.agg #[.string o.name, .string o.to])
     else if o.kind = 3 then .iface 169 (.agg #[.string o.name])
     else .nilIface)
  else .nilIface

set_option maxRecDepth 10000 in
set_option maxHeartbeats 4000000 in
theorem changeOf_calls (o : Dop) (w : World) (hf : FitO o) :
    Calls Tryz.prog 75 #[dopV o] w fun e w' => e = .returned (.tuple #[chV o, .bool (formB o)]) ∧ Below w.heap.size w w' := by
  obtain ⟨kd, nm, to, dt⟩ := o
  obtain ⟨f1, f2, f3⟩ := hf
  simp only at f1 f2 f3
  obtain ⟨B, hB⟩ : ∃ B, formB ⟨kd, nm, to, dt⟩ = B := ⟨_, rfl⟩
  obtain ⟨V, hV⟩ : ∃ V, chV ⟨kd, nm, to, dt⟩ = V := ⟨_, rfl⟩
  rw [hB, hV]
  unfold formB at hB
  unfold chV at hV
  simp only at hB hV
  unfold dopV
  simp only
  have HB0 := hide (bel1 w (.cells #[.int .i64 kd, .string nm, .string to, .string dt] 50))
  have HB1 := hide (fun k => belN (unhide HB0) k)
  cases hnm : nmB nm with
  | false =>
    rw [hnm] at hB hV
    obtain rfl : B = false := by rw [← hB]; simp
    obtain rfl : V = .nilIface := by rw [← hV]; rfl
    have H := hide hnm
    clear hB hV hnm
    go_enter Tryz.func75, Tryz.ntmps75
    go_wp2_with (go_at_call 107; refine (fileNameOk_calls nm _ f1).mono ?_; rintro e w1 ⟨rfl, rfl⟩; rw [unhide H])
    go_ret2
    exact ⟨rfl, unhide HB0⟩
  | true =>
    rw [hnm, if_pos rfl] at hV
    rw [hnm] at hB
    have H := hide hnm
    clear hnm
    by_cases h1 : kd = 1
    · subst h1
      rw [if_pos rfl] at hV
      subst hV
      cases h2 : emp to with
      | false =>
        obtain rfl : B = false := by rw [← hB, if_neg (by decide), h2]; rfl
        unfold emp at h2
        clear hB
        go_enter Tryz.func75, Tryz.ntmps75
        go_wp2_with (go_at_call 107; refine (fileNameOk_calls nm _ f1).mono ?_; rintro e w1 ⟨rfl, rfl⟩; rw [unhide H])
        go_quiet (fail)
        all_goals (try go_wp2_with fail)
        all_goals go_ret2
        all_goals exact ⟨rfl, unhide HB1 _⟩
      | true =>
        obtain rfl : B = true := by rw [← hB, if_neg (by decide), h2]; rfl
        unfold emp at h2
        clear hB
        go_enter Tryz.func75, Tryz.ntmps75
        go_wp2_with (go_at_call 107; refine (fileNameOk_calls nm _ f1).mono ?_; rintro e w1 ⟨rfl, rfl⟩; rw [unhide H])
        go_quiet (fail)
        all_goals (try go_wp2_with fail)
        all_goals go_ret2
        all_goals exact ⟨rfl, unhide HB1 _⟩
    · have b1 : (kd == 1) = false := by simpa using h1
      rw [if_neg h1] at hV
      by_cases h2 : kd = 2
      · subst h2
        rw [if_pos rfl] at hV
        subst hV
        cases h4 : nmB to with
        | false =>
          have H4 := hide h4
          obtain rfl : B = false := by rw [← hB, if_pos rfl, h4]; rfl
          clear h4
          clear hB
          go_enter Tryz.func75, Tryz.ntmps75
          go_wp2_with (go_at_call 107; refine (fileNameOk_calls nm _ f1).mono ?_; rintro e w1 ⟨rfl, rfl⟩; rw [unhide H])
          go_quiet ((go_at_call 107; exact fileName_quiet _ _ _ _ f2 (unhide H4)))
          all_goals (try go_wp2_with fail)
          all_goals go_ret2
          all_goals exact ⟨rfl, unhide HB1 _⟩
        | true =>
          have H4 := hide h4
          cases h5 : emp dt with
          | false =>
            obtain rfl : B = false := by rw [← hB, if_pos rfl, h4, h5]; rfl
            clear h4
            unfold emp at h5
            clear hB
            go_enter Tryz.func75, Tryz.ntmps75
            go_wp2_with (go_at_call 107; refine (fileNameOk_calls nm _ f1).mono ?_; rintro e w1 ⟨rfl, rfl⟩; rw [unhide H])
            go_quiet ((go_at_call 107; exact fileName_quiet _ _ _ _ f2 (unhide H4)))
            all_goals (try go_wp2_with fail)
            all_goals go_ret2
            all_goals exact ⟨rfl, unhide HB1 _⟩
          | true =>
            obtain rfl : B = true := by rw [← hB, if_pos rfl, h4, h5]; rfl
            clear h4
            unfold emp at h5
            clear hB
            go_enter Tryz.func75, Tryz.ntmps75
            go_wp2_with (go_at_call 107; refine (fileNameOk_calls nm _ f1).mono ?_; rintro e w1 ⟨rfl, rfl⟩; rw [unhide H])
            go_quiet ((go_at_call 107; exact fileName_quiet _ _ _ _ f2 (unhide H4)))
            all_goals (try go_wp2_with fail)
            all_goals go_ret2
            all_goals exact ⟨rfl, unhide HB1 _⟩
      · have b2 : (kd == 2) = false := by simpa using h2
        rw [if_neg h2] at hV hB
        by_cases h3 : kd = 3
        · subst h3
          rw [if_pos rfl] at hV
          subst hV
          cases h4 : emp to with
          | false =>
            obtain rfl : B = false := by rw [← hB, h4]; rfl
            unfold emp at h4
            clear hB
            go_enter Tryz.func75, Tryz.ntmps75
            go_wp2_with (go_at_call 107; refine (fileNameOk_calls nm _ f1).mono ?_; rintro e w1 ⟨rfl, rfl⟩; rw [unhide H])
            go_quiet (fail)
            all_goals (try go_wp2_with fail)
            all_goals go_ret2
            all_goals exact ⟨rfl, unhide HB1 _⟩
          | true =>
            cases h5 : emp dt with
            | false =>
              obtain rfl : B = false := by rw [← hB, h4, h5]; rfl
              unfold emp at h4 h5
              clear hB
              go_enter Tryz.func75, Tryz.ntmps75
              go_wp2_with (go_at_call 107; refine (fileNameOk_calls nm _ f1).mono ?_; rintro e w1 ⟨rfl, rfl⟩; rw [unhide H])
              go_quiet (fail)
              all_goals (try go_wp2_with fail)
              all_goals go_ret2
              all_goals exact ⟨rfl, unhide HB1 _⟩
            | true =>
              obtain rfl : B = true := by rw [← hB, h4, h5]; rfl
              unfold emp at h4 h5
              clear hB
              go_enter Tryz.func75, Tryz.ntmps75
              go_wp2_with (go_at_call 107; refine (fileNameOk_calls nm _ f1).mono ?_; rintro e w1 ⟨rfl, rfl⟩; rw [unhide H])
              go_quiet (fail)
              all_goals (try go_wp2_with fail)
              all_goals go_ret2
              all_goals exact ⟨rfl, unhide HB1 _⟩
        · have b3 : (kd == 3) = false := by simpa using h3
          rw [if_neg h3] at hV
          subst hV
          obtain rfl : B = false := by
            rw [← hB]
            by_cases h6 : 1 ≤ kd
            · rw [decide_eq_false (show ¬ kd ≤ 3 by omega)]; simp
            · rw [decide_eq_false h6]; simp
          clear hB
          go_enter Tryz.func75, Tryz.ntmps75
          go_wp2_with (go_at_call 107; refine (fileNameOk_calls nm _ f1).mono ?_; rintro e w1 ⟨rfl, rfl⟩; rw [unhide H])
          go_ret2
          exact ⟨rfl, unhide HB0⟩
end Go.Proofs.YtakalfckhailjaaGreat


/- The program's right files by their contract. -/
namespace Go.Proofs.YtakalfckhailjaaGreat
open Go.RowKit Plain
set_option linter.unusedVariables false

set_option maxRecDepth 10000 in
set_option maxHeartbeats 4000000 in
theorem filesOk_calls (a : Option Addr) (n c : Nat) (fs : List Fl) (w : World) (hn : fs.length = n) (hn2 : n ≤ 100000000000) (hf : FitF fs) (h : RowAt fileE w a fs) :
    Calls Tryz.prog 74 #[.slice a n c] w fun e w' => e = .returned (.bool (filesB fs)) ∧ Below w.heap.size w w' := by
  have H := hide h
  have HN := hide hn
  have HF := hide hf
  clear h hf
  have HB : filesB fs = (decide (n ≤ 60) && (okF none fs && decide (sumF fs ≤ 200000))) := by unfold filesB; rw [hn]
  rw [HB]
  clear HB hn
  by_cases hl : n ≤ 60
  · rw [decide_eq_true hl]
    go_enter Tryz.func74, Tryz.ntmps74
    go_wp2_with fail
    go_loopw [3, 11] (fun m i wr => ∃ (k s : Nat), m = .int .i64 s ∧ i = .int .i64 k ∧ k ≤ n ∧ s ≤ k * 1000000000000 ∧ Hid (okF (prevN fs k) (fs.drop k) = okF none fs) ∧ Hid (s + sumF (fs.drop k) = sumF fs) ∧ Hid (Below w.heap.size w wr)) (fun _ i _ => n - (intOf i).toNat)
    case atStart => exact ⟨0, 0, rfl, rfl, by omega, by omega, hide rfl, hide (by simp), hide (Below.refl _ _)⟩
    case round =>
      obtain ⟨k, s, rfl, rfl, hk, hs, HO, HS, HBe⟩ := hrel
      by_cases hkn : k < n
      · have hkl : k < fs.length := by rw [unhide HN]; exact hkn
        obtain ⟨g, e1, l1, p0, p1⟩ := ((unhide H).below (unhide HBe)).file k hkl
        have hfit := unhide HF fs[k] (by simp)
        have hst := okF_step fs k hkl
        have hsu := sumF_drop fs k hkl
        have hprev : ∀ j, k = j + 1 → ∃ p, prevN fs k = some p ∧ wr.cell? ⟨g, j * 2, none⟩ = some (.string p) := by
          intro j hj
          subst hj
          have hjl : j < fs.length := by omega
          obtain ⟨g', e', l', r0, r1⟩ := ((unhide H).below (unhide HBe)).file j hjl
          rw [e1] at e'
          obtain rfl : g = g' := by simpa using e'
          exact ⟨fs[j].1, by rw [prevN, List.getElem?_eq_getElem hjl]; rfl, r0⟩
        generalize fs[k] = f at p0 p1 hfit hst hsu
        obtain ⟨nm, dt⟩ := f
        simp only at p0 p1 hfit hst hsu
        subst e1
        have i0 : (0 : Int) ≤ (k : Int) := by omega
        have i1 : (k : Int) < (n : Int) := by omega
        cases hnm : nmB nm with
        | false =>
          have HR := hide (show okF none fs = false from by rw [← unhide HO, hst, hnm]; rfl)
          have HNM := hide hnm
          clear hst hsu hprev hnm HO HS
          go_wp2_with fail
          go_quiet ((go_at_call 107; exact fileName_quiet _ _ _ _ hfit.1 (unhide HNM)))
          all_goals (try go_wp2_with fail)
          all_goals go_ret
          all_goals exact ⟨by rw [unhide HR]; rfl, belN (belOn (unhide HBe) (bel1 _ _)) _⟩
        | true =>
          have HNM := hide hnm
          rw [hnm, Bool.true_and] at hst
          have hsk : s + dt.size ≤ (k + 1) * 1000000000000 := by omega
          have HS2 := hide (show (s + dt.size) + sumF (fs.drop (k + 1)) = sumF fs from by rw [← unhide HS, hsu]; omega)
          have hs60 : s ≤ 60000000000000 := by omega
          clear hnm hsu HS
          cases k with
          | zero =>
            have HO2 := hide (show okF (prevN fs 1) (fs.drop 1) = okF none fs from by rw [← unhide HO, hst]; rfl)
            clear hst hprev HO
            simp only [Nat.zero_mul, Nat.zero_add] at p0 p1
            go_wp2_with fail
            go_quiet ((go_at_call 107; exact fileName_quiet _ _ _ _ hfit.1 (unhide HNM)))
            all_goals (try go_wp2_with fail)
            all_goals exact ⟨⟨1, s + dt.size, by go_num, by go_num, by omega, hsk, HO2, HS2, hide (belN (belOn (unhide HBe) (bel1 _ _)) _)⟩, by simp [intOf]; omega⟩
          | succ j =>
            obtain ⟨p, hp, r0a⟩ := hprev j rfl
            have r0 := fun ob => bcl (bel1 wr ob) l1 r0a
            rw [hp] at hst
            simp only at hst
            have j0 : (0 : Int) ≤ (j : Int) := by omega
            have j1 : (j : Int) < (n : Int) := by omega
            have j2 : (j : Int) + 1 < (n : Int) := by omega
            cases hls : lessN p nm with
            | false =>
              have HR := hide (show okF none fs = false from by rw [← unhide HO, hp, hst, hls]; rfl)
              have hor := less_or hls
              unfold lessN eqN at hor
              clear hst hprev HO hls hp
              go_wp2_with fail
              go_quiet ((go_at_call 107; exact fileName_quiet _ _ _ _ hfit.1 (unhide HNM)))
              all_goals (try go_wp2_with fail)
              all_goals go_ret
              all_goals exact ⟨by rw [unhide HR]; rfl, belN (belOn (unhide HBe) (bel1 _ _)) _⟩
            | true =>
              have HO2 := hide (show okF (prevN fs (j + 1 + 1)) (fs.drop (j + 1 + 1)) = okF none fs from by rw [← unhide HO, hp, hst, hls]; rfl)
              obtain ⟨b1, b2⟩ := less_not hls
              unfold lessN at b1
              unfold eqN at b2
              clear hst hprev HO hls hp
              go_wp2_with fail
              go_quiet ((go_at_call 107; exact fileName_quiet _ _ _ _ hfit.1 (unhide HNM)))
              all_goals (try go_wp2_with fail)
              all_goals exact ⟨⟨j + 1 + 1, s + dt.size, by go_num, by go_num, by omega, hsk, HO2, HS2, hide (belN (belOn (unhide HBe) (bel1 _ _)) _)⟩, by simp [intOf]; omega⟩
      · obtain rfl : k = n := by omega
        have HO2 := unhide HO
        have HS2 := unhide HS
        rw [List.drop_of_length_le (by rw [unhide HN]; exact Nat.le_refl _)] at HO2 HS2
        have HR := hide (show okF none fs = true from by rw [← HO2]; cases prevN fs k <;> rfl)
        have HT := hide (show sumF fs = s from by rw [← HS2]; rfl)
        clear HO HS HO2 HS2
        by_cases h2 : s ≤ 200000
        · have h3 : decide ((s : Int) ≤ 200000) = true := decide_eq_true (by omega)
          have H3 := hide (decide_eq_true h2)
          go_wp2_with fail
          go_ret
          exact ⟨by rw [unhide HR, unhide HT, unhide H3]; rfl, unhide HBe⟩
        · have h3 : decide ((s : Int) ≤ 200000) = false := decide_eq_false (by omega)
          have H3 := hide (decide_eq_false h2)
          go_wp2_with fail
          go_ret
          exact ⟨by rw [unhide HR, unhide HT, unhide H3]; rfl, unhide HBe⟩
  · rw [decide_eq_false hl]
    go_enter Tryz.func74, Tryz.ntmps74
    go_wp2_with fail
    go_ret
    exact ⟨rfl, Below.refl _ _⟩
end Go.Proofs.YtakalfckhailjaaGreat


/- Whether the program's table is too full. -/
namespace Go.Proofs.YtakalfckhailjaaGreat
open Go.RowKit Go.Maps Plain
set_option linter.unusedVariables false

namespace Plain
def namesF (fs : List Fl) : List (List UInt8) := fs.map fun f => f.1.data.toList
theorem tabF_some (fs : List Fl) (hn : (namesF fs).Nodup) : ∀ n d, tabF fs n = some d ↔ (n, d) ∈ fs := by
  induction fs with
  | nil => intro n d; simp [tabF]
  | cons g t ih =>
    intro n d
    have hn2 := List.nodup_cons.1 hn
    have ih2 := ih hn2.2
    show (match tabF t n with | some d => some d | none => if n = g.1 then some g.2 else none) = some d ↔ _
    cases ht : tabF t n with
    | some x =>
      have hx := (ih2 n x).1 ht
      have hne : n ≠ g.1 := fun e => hn2.1 (by subst e; exact List.mem_map.2 ⟨(g.1, x), hx, rfl⟩)
      constructor
      · intro h
        obtain rfl : x = d := by simpa using h
        exact List.mem_cons_of_mem _ hx
      · intro h
        rcases List.mem_cons.1 h with e | h
        · exact absurd (congrArg Prod.fst e) hne
        · have := (ih2 n d).2 h; rw [ht] at this; exact this
    | none =>
      constructor
      · intro h
        by_cases e : n = g.1
        · simp only [if_pos e] at h
          obtain rfl : g.2 = d := by simpa using h
          rw [e]; simp
        · simp only [if_neg e] at h; simp at h
      · intro h
        rcases List.mem_cons.1 h with e | h
        · subst e; simp
        · have := (ih2 n d).2 h; rw [ht] at this; simp at this
theorem has_names {D : DataW Unit} {fs : List Fl} (hD : TabD D (tabF fs)) (hn : (namesF fs).Nodup) (x : List UInt8) : Maps.has D (.string x) = true ↔ x ∈ namesF fs := by
  have hx := hD (toB x)
  have hk : keyL (toB x) = .string x := rfl
  rw [hk] at hx
  cases ht : tabF fs (toB x) with
  | none =>
    rw [ht] at hx
    rw [hx]
    constructor
    · intro h; simp at h
    · intro h
      obtain ⟨g, hg, e⟩ := List.mem_map.1 h
      have e2 : g.1 = toB x := ByteArray.ext (Array.toList_inj.1 e)
      have := (tabF_some fs hn (toB x) g.2).2 (by rw [← e2]; exact hg)
      rw [ht] at this; simp at this
  | some d =>
    rw [ht] at hx
    rw [hx.1]
    have := (tabF_some fs hn _ d).1 ht
    exact ⟨fun _ => List.mem_map.2 ⟨_, this, rfl⟩, fun _ => rfl⟩
theorem tab_keys {w : World} {b m : Nat} {D : DataW Unit} {fs : List Fl} (hown : w.ownsMap Tryz.prog 9 flElem b m D) (hD : TabD D (tabF fs)) (hn : (namesF fs).Nodup) : (namesF fs).Perm (strKeys D) :=
  Collected.perm (left := fun _ => false) ⟨hn, fun x => by rw [has_names hD hn x]; simp⟩ hown (string_keyed Tryz.underlying9) Tryz.underlying9 (fun _ => rfl)
theorem tab_size {w : World} {b m : Nat} {D : DataW Unit} {fs : List Fl} (hown : w.ownsMap Tryz.prog 9 flElem b m D) (hD : TabD D (tabF fs)) (hn : (namesF fs).Nodup) : Maps.size D = fs.length := by
  have := (tab_keys hown hD hn).length_eq
  obtain ⟨es, rfl⟩ := hown.isMap
  simp [namesF, strKeys] at this
  exact this.symm
/-- The bytes of the files that are still to come. -/
def sumL2 (left : Lit → Bool) : List Fl → Nat
  | [] => 0
  | f :: t => (if left (keyL f.1) then f.2.size else 0) + sumL2 left t
theorem sumL2_all (left : Lit → Bool) (fs : List Fl) (h : ∀ f ∈ fs, left (keyL f.1) = true) : sumL2 left fs = sumF fs := by
  induction fs with
  | nil => rfl
  | cons f t ih => rw [sumL2, sumF, if_pos (h f (by simp)), ih (fun g hg => h g (by simp [hg]))]
theorem sumL2_none (left : Lit → Bool) (fs : List Fl) (h : ∀ k, left k = false) : sumL2 left fs = 0 := by
  induction fs with
  | nil => rfl
  | cons f t ih => rw [sumL2, ih, h]; simp
theorem sumL2_same (left : Lit → Bool) (fs : List Fl) (n : ByteArray) (h : n.data.toList ∉ namesF fs) : sumL2 (fun z => left z && !z.sameKey (keyL n)) fs = sumL2 left fs := by
  induction fs with
  | nil => rfl
  | cons f t ih =>
    have h1 : f.1 ≠ n := fun e => h (by subst e; simp [namesF])
    have hs : (keyL f.1).sameKey (keyL n) = false := by
      cases hh : (keyL f.1).sameKey (keyL n) with
      | false => rfl
      | true => exact absurd (keyL_inj (WideAt.sameKey_eq hh)) h1
    rw [sumL2, sumL2, ih (fun hh => h (by unfold namesF; rw [List.map_cons]; exact List.mem_cons_of_mem _ hh)), hs]
    simp
theorem sumL2_step (left : Lit → Bool) (fs : List Fl) (n d : ByteArray) (hn : (namesF fs).Nodup) (hm : (n, d) ∈ fs) (hl : left (keyL n) = true) : d.size + sumL2 (fun z => left z && !z.sameKey (keyL n)) fs = sumL2 left fs := by
  induction fs with
  | nil => simp at hm
  | cons f t ih =>
    have hn2 := List.nodup_cons.1 hn
    rcases List.mem_cons.1 hm with e | hm
    · subst e
      have hs : (keyL n).sameKey (keyL n) = true := WideAt.sameKey_self (key_ok n)
      rw [sumL2, sumL2, sumL2_same left t n hn2.1, hl, hs]
      simp
    · have h1 : f.1 ≠ n := fun e => hn2.1 (by subst e; exact List.mem_map.2 ⟨_, hm, rfl⟩)
      have hs : (keyL f.1).sameKey (keyL n) = false := by
        cases hh : (keyL f.1).sameKey (keyL n) with
        | false => rfl
        | true => exact absurd (keyL_inj (WideAt.sameKey_eq hh)) h1
      have := ih hn2.2 hm
      rw [sumL2, sumL2, hs]
      simp only [Bool.not_false, Bool.and_true]
      omega
end Plain

theorem Plain.below_grown {w w' : World} {B : Nat} (h : w.grownBy w' none) (hB : B ≤ w.heap.size) : Below B w w' := ⟨h.os, h.tape, h.output, h.size, fun k hk => h.block k (by omega) (by simp)⟩
theorem Plain.below_grown_at {w w' : World} {B r : Nat} (h : w.grownBy w' (some r)) (hB : B ≤ w.heap.size) (hr : B ≤ r) : Below B w w' := ⟨h.os, h.tape, h.output, h.size, fun k hk => h.block k (by omega) (by intro e; cases e; omega)⟩
theorem Plain.flElem_ex {v : Value} {y : DataW Unit × List MemPlace} (h : flElem v = some y) : ∃ p : Fl, v = .agg #[.string p.1, .string p.2] := by
  unfold flElem at h
  split at h
  · next cs =>
    split at h
    · next n d hcs => exact ⟨(n, d), by congr 1; exact Array.toList_inj.1 hcs⟩
    · simp at h
  · simp at h

theorem Plain.tab_mem {D : DataW Unit} {fs : List Fl} (hD : TabD D (tabF fs)) (hn : (namesF fs).Nodup) {x : List UInt8} {nm dt : ByteArray} (hat : ∀ z, D.atKey (.string x) z = flD (nm, dt)) : (nm, dt) ∈ fs ∧ keyL nm = .string x := by
  have hx := hD (toB x)
  have hk : keyL (toB x) = .string x := rfl
  rw [hk] at hx
  cases ht : tabF fs (toB x) with
  | none =>
    rw [ht] at hx
    have := (atKey_of_not_has hx (DataW.agg [])).symm.trans (hat (DataW.agg []))
    simp [flD] at this
  | some d =>
    rw [ht] at hx
    have e := (hx.2 (DataW.agg [])).symm.trans (hat (DataW.agg []))
    simp [flD] at e
    have e1 : toB x = nm := ByteArray.ext (Array.toList_inj.1 (by simpa using e.1))
    have e2 : d = dt := ByteArray.ext (Array.toList_inj.1 (by simpa using e.2))
    subst e1 e2
    exact ⟨(tabF_some fs hn _ _).1 ht, rfl⟩

set_option maxRecDepth 10000 in
set_option maxHeartbeats 4000000 in
theorem tooFull_calls (b m : Nat) (fs : List Fl) (w : World) (h : Tab w b m (tabF fs)) (hn : (namesF fs).Nodup) (hl : fs.length ≤ 1000000000000) (hs : sumF fs ≤ 1000000000000000) :
    Calls Tryz.prog 47 #[.map (some b)] w fun e w' => e = .returned (.bool (!(decide (fs.length ≤ 60) && decide (sumF fs ≤ 200000)))) ∧ Below w.heap.size w w' := by
  obtain ⟨D, hown, hD⟩ := h
  have hsz := tab_size hown hD hn
  have hall : ∀ f ∈ fs, Maps.has D (keyL f.1) = true := fun f hf => (has_names hD hn _).2 (List.mem_map.2 ⟨f, hf, rfl⟩)
  have HD := hide hD
  have HN := hide hn
  have HZ := hide hsz
  have HA := hide (sumL2_all (Maps.has D) fs hall)
  clear hD hn hsz hall
  generalize hln : fs.length = n at *
  generalize hsm : sumF fs = S at *
  have HL := hide hln
  have HM := hide hsm
  clear hln hsm
  go_enter Tryz.func47, Tryz.ntmps47
  go_wp2_with (first
    | (at_range; refine wpList_range_own _ rfl _ 71 rfl 9 67 law_str Tryz.underlying71 flElem b m D rfl hown ?_; intro w0 hrg0 hg0 hs0)
    | go_in)
  go_frame
  go_loopw [3] (fun sv wr => ∃ (s : Nat) (left : Lit → Bool) (cnt : Nat), sv = .int .i64 s ∧ s ≤ S ∧ wr.ranges Tryz.prog 9 flElem b w.heap.size m D left cnt ∧ Hid (s + sumL2 left fs = S) ∧ Hid (Below w.heap.size w wr)) (fun _ wr => wr.rangeLeft b w.heap.size)
  case atStart => exact ⟨0, _, _, rfl, by omega, hrg0, hide (by rw [unhide HA, Nat.zero_add]), hide (below_grown hg0 (Nat.le_refl _))⟩
  case round =>
    obtain ⟨s, left, cnt, rfl, hsS, hrg, HS, HBe⟩ := hrel
    go_wp2_with (first
      | (at_next; refine wpList_next_ranges (α := List UInt8) (β := Fl) _ rfl _ rfl 9 law_str flElem encStr (fun p => .agg #[.string p.1, .string p.2]) (fun key kl hk => by obtain ⟨x, e, _⟩ := Maps.keyOf_str Tryz.underlying9 hk; exact ⟨x, e⟩) (fun v y hv => flElem_ex hv) b w.heap.size m D left cnt rfl hrg ?_ ?_)
      | go_in)
    · intro hc0 hl0
      have hown2 := hrg.owns
      have hsS2 : s = S := by have := unhide HS; rw [sumL2_none left fs hl0] at this; omega
      subst hsS2
      clear HS hc0 hl0 hrg hrg0
      go_wp2_with (first
        | (at_len; refine wpList_len_own _ rfl _ 71 rfl 9 67 Tryz.underlying71 flElem b m D rfl hown2 ?_; rw [unhide HZ])
        | go_in)
      all_goals (try go_ret)
      all_goals refine ⟨?_, unhide HBe⟩
      all_goals (show Ending.returned (.bool _) = Ending.returned (.bool _); rcases Nat.lt_or_ge 60 n with h1 | h1 <;> rcases Nat.lt_or_ge 200000 s with h2 | h2 <;> first | (simp_all; done) | (simp_all; omega) | (congr 2; rw [decide_eq_false (by omega), decide_eq_true (by omega)]; simp [h1]; omega) | skip)
    · intro x nm dt kl yd yp w2 cnt2 hkey hlk hv hat hrg2 hlt hg2 hs2 hen
      have hb2 : Below w.heap.size wr w2 := below_grown_at hg2 (unhide HBe).size (Nat.le_refl _)
      have hb3 : Below w.heap.size w w2 := (unhide HBe).trans hb2
      obtain ⟨x2, ex, rfl, hx⟩ := Maps.keyOf_str Tryz.underlying9 hkey
      have hat2 : ∀ z, D.atKey (.string x2) z = flD (nm, dt) := by
        intro z; rw [hat z]
        have e : some (flD (nm, dt), []) = some (yd, yp) := (flElem_mk nm dt).symm.trans hv
        exact (congrArg Prod.fst (Option.some.inj e)).symm
      have hmem : (nm, dt) ∈ fs ∧ keyL nm = .string x2 := tab_mem (unhide HD) (unhide HN) hat2
      have hstep := sumL2_step left fs nm dt (unhide HN) hmem.1 (by rw [hmem.2]; exact hlk)
      have hds : s + dt.size ≤ S := by have := unhide HS; omega
      have HS2 := hide (show (s + dt.size) + sumL2 (fun z => left z && !z.sameKey (.string x2)) fs = S from by rw [← unhide HS, ← hstep, hmem.2]; omega)
      have HB3 := hide hb3
      have hs60 : s + dt.size ≤ 1000000000000000 := by omega
      clear hs2 hb2 hb3 hstep hmem hat2 hat hv HS hkey ex
      go_wp2_with fail
      all_goals exact ⟨⟨s + dt.size, _, cnt2, by go_num, hds, hrg2.alloc _, HS2, hide ((unhide HB3).trans ((bel1 _ _).mono (unhide HB3).size))⟩, by rw [(hrg2.alloc _).left_eq, hrg.left_eq]; exact hlt⟩
end Go.Proofs.YtakalfckhailjaaGreat

