/- Texts of one kind, put together. -/
import Derived.Test.YtakalfckhailjaaGreatGAN
import Derived.Test.YtakalfckhailjaaGreatGBE
import Derived.Test.YtakalfckhailjaaGreatRecS

/- A log comes back from its bytes, whole or torn, as mathematics. -/
namespace Go.Proofs.YtakalfckhailjaaGreat
open Go.RowKit Plain
set_option linter.unusedVariables false

namespace Plain
/-- A frame that stands ahead of other bytes. -/
theorem frame_front (k : Int) (b c : ByteArray) (h0 : 1 ≤ k) (h1 : k ≤ 100) (h2 : b.size ≤ 20000) : frC (frameB k b ++ c) = 0 ∧ frm (frameB k b ++ c) = (k, b) ∧ frN (frameB k b ++ c) = (frameB k b).size := by
  obtain ⟨e1, e2, e3⟩ := frame_back k b h0 h1 h2
  have hp := (frame_parts k b h0 h1 h2).1
  have hx := pre_of (frameB k b) c
  have h := frame_pre (frameB k b ++ c) (frameB k b).size (by rw [ByteArray.size_append]; omega) (by rw [hx]; exact e2)
  rw [hx] at h
  refine ⟨h.1, h.2.2.1.trans e3, h.2.1.trans ?_⟩
  unfold frN
  rw [e1, hp]
/-- A frame that is cut is none. -/
theorem frame_cut (k : Int) (b : ByteArray) (h0 : 1 ≤ k) (h1 : k ≤ 100) (h2 : b.size ≤ 20000) (m : Nat) (hm : m < (frameB k b).size) : frC ((frameB k b).extract 0 m) ≠ 0 := fun h => by
  have h3 := (frame_pre (frameB k b) m (by omega) h).2.2.2
  have hp := (frame_parts k b h0 h1 h2).1
  have hn : frN (frameB k b) = (frameB k b).size := by unfold frN; rw [(frame_back k b h0 h1 h2).1, hp]
  omega
def okFr (f : Int × ByteArray) : Prop := 1 ≤ f.1 ∧ f.1 ≤ 100 ∧ f.2.size ≤ 20000
theorem run_back (s : ByteArray) : ∀ (fs : List (Int × ByteArray)) (r : ByteArray) (f p done : Nat), p ≤ s.size → s.extract p s.size = catF fs ++ r → (∀ x ∈ fs, okFr x) → done + fs.length ≤ 2000 →
    run s (f + fs.length) p done = (fs ++ (run s f (p + (catF fs).size) (done + fs.length)).1, (run s f (p + (catF fs).size) (done + fs.length)).2) ∧ p + (catF fs).size ≤ s.size ∧ s.extract (p + (catF fs).size) s.size = r
  | [], r, f, p, done, hp, he, _, _ => by
    have e0 : (catF []).size = 0 := rfl
    rw [e0]
    refine ⟨by simp, hp, ?_⟩
    rw [Nat.add_zero, he]
    apply ByteArray.ext
    simp [catF]
  | x :: l, r, f, p, done, hp, he, hk, hd => by
    obtain ⟨k, b⟩ := x
    obtain ⟨x0, x1, x2⟩ := hk _ List.mem_cons_self
    simp only at x0 x1 x2
    rw [catF, ByteArray.append_assoc] at he
    simp only at he
    obtain ⟨q1, q2, q3⟩ := frame_front k b (catF l ++ r) x0 x1 x2
    have hsz := (frame_parts k b x0 x1 x2).1
    have hz := rest_size s p
    have hz2 : s.size - p = (frameB k b).size + ((catF l).size + r.size) := by rw [← hz, he, ByteArray.size_append, ByteArray.size_append]
    have hee : s.extract (p + (frameB k b).size) s.size = catF l ++ r := by
      rw [← ext_rest s p (frameB k b).size, he]
      exact rest_of _ _
    rw [← he] at q1 q2 q3
    rw [List.length_cons] at hd
    obtain ⟨i1, i2, i3⟩ := run_back s l r f (p + (frameB k b).size) (done + 1) (by omega) hee (fun y hy => hk y (List.mem_cons_of_mem _ hy)) (by omega)
    have hc : (catF ((k, b) :: l)).size = (frameB k b).size + (catF l).size := by rw [catF, ByteArray.size_append]
    rw [List.length_cons, show f + (l.length + 1) = (f + l.length) + 1 from by omega, run_next s (f + l.length) p done (by omega) (by omega) q1, q2, q3, i1, hc, ← Nat.add_assoc, show done + (l.length + 1) = done + 1 + l.length from by omega]
    exact ⟨rfl, i2, i3⟩
theorem ext_whole (s : ByteArray) : s.extract 0 s.size = s := by apply ByteArray.ext; apply Array.ext'; rw [extract_list, List.drop_zero, Nat.sub_zero, ← len_list s, List.take_length]
theorem read_back (fs : List (Int × ByteArray)) (r : ByteArray) (hk : ∀ x ∈ fs, okFr x) (hl : fs.length ≤ 1000) : (readF (catF fs ++ r)).1 = fs ++ (run (catF fs ++ r) (2001 - fs.length) (catF fs).size fs.length).1 ∧ (catF fs ++ r).extract (catF fs).size (catF fs ++ r).size = r := by
  have h := run_back (catF fs ++ r) fs r (2001 - fs.length) 0 0 (Nat.zero_le _) (ext_whole _) hk (by omega)
  rw [Nat.zero_add, Nat.zero_add] at h
  refine ⟨?_, h.2.2⟩
  unfold readF
  rw [show 2001 = 2001 - fs.length + fs.length from by omega, h.1]
  simp
theorem read_whole (fs : List (Int × ByteArray)) (hk : ∀ x ∈ fs, okFr x) (hl : fs.length ≤ 1000) : (readF (catF fs)).1 = fs := by
  have h := (read_back fs ⟨#[]⟩ hk hl).1
  rw [app_none] at h
  rw [h, show 2001 - fs.length = (2000 - fs.length) + 1 from by omega, run_end _ _ _ _ (Nat.le_refl _)]
  simp
theorem read_torn (fs : List (Int × ByteArray)) (r : ByteArray) (hk : ∀ x ∈ fs, okFr x) (hl : fs.length ≤ 1000) (hr : frC r ≠ 0) : (readF (catF fs ++ r)).1 = fs := by
  obtain ⟨h, h2⟩ := read_back fs r hk hl
  rw [h, show 2001 - fs.length = (2000 - fs.length) + 1 from by omega]
  by_cases hz : (catF fs ++ r).size ≤ (catF fs).size
  · rw [run_end _ _ _ _ hz]; simp
  · rw [run_code _ _ _ _ hz (by omega) (by rw [h2]; exact hr)]; simp
/-- The frame of an entry. -/
def entF (e : Ent) : Int × ByteArray := (2, putS e.term ++ putS e.kind ++ putT e.body)
theorem entF_ok {e : Ent} (h : entB e.term e.kind e.body = true) : okFr (entF e) := by
  obtain ⟨_, _, _, _, hb⟩ := entB_yes h
  have h1 := putS_size e.term
  have h2 := putS_size e.kind
  have h3 := putS_size (e.body.size : Int)
  refine ⟨by show (1 : Int) ≤ 2; decide, by show (2 : Int) ≤ 100; decide, ?_⟩
  show (putS e.term ++ putS e.kind ++ putT e.body).size ≤ 20000
  unfold putT
  rw [if_pos (by omega), ByteArray.size_append, ByteArray.size_append, ByteArray.size_append]
  omega
theorem catF_ent : ∀ (es : List Ent), (∀ e ∈ es, entB e.term e.kind e.body = true) → catF (es.map entF) = catQ es
  | [], _ => rfl
  | e :: l, h => by
    rw [List.map_cons, catF, catQ, catF_ent l (fun x hx => h x (List.mem_cons_of_mem _ hx))]
    unfold entT
    rw [if_pos (h e List.mem_cons_self)]
    rfl
theorem ext_part (b : ByteArray) (p i j : Nat) : (b.extract p b.size).extract i j = b.extract (p + i) (min (p + j) b.size) := by
  rw [ByteArray.extract_extract]
theorem stp_at {b t : ByteArray} {p n : Nat} (he : b.extract p b.size = putS (n : Int) ++ t) (hp : p ≤ b.size) (hn : n ≤ 1000000000000) : stp b p = some ((n : Int), p + (putS (n : Int)).size) ∧ p + (putS (n : Int)).size ≤ b.size ∧ b.extract (p + (putS (n : Int)).size) b.size = t := by
  have hz := rest_size b p
  rw [he, ByteArray.size_append] at hz
  refine ⟨?_, by omega, ?_⟩
  · unfold stp
    rw [← tkN_shift b p hp, he, tkN_put n t hn]
    rfl
  · rw [← ext_rest b p, he]
    exact rest_of _ _
theorem txp_at {b x t : ByteArray} {p : Nat} (he : b.extract p b.size = putT x ++ t) (hp : p ≤ b.size) (hx : x.size ≤ 20000) : txp b p = some (x, p + (putT x).size) := by
  have hz := rest_size b p
  have hpt : putT x = putS (x.size : Int) ++ x := by unfold putT; rw [if_pos hx]
  have h2 := he
  rw [hpt, ByteArray.append_assoc] at h2
  unfold txp
  rw [← tkT_shift b p hp, h2, tkT_put x t hx]
  simp only [Option.map_some]
  rw [hpt, ByteArray.size_append]
  have hm := mid_of (putS (x.size : Int)) x t
  rw [← h2, ext_part] at hm
  rw [h2, ByteArray.size_append, ByteArray.size_append] at hz
  rw [Nat.min_eq_left (by omega), ← Nat.add_assoc] at hm
  rw [hm, Nat.add_assoc]
theorem frE_ent {e : Ent} (h : entB e.term e.kind e.body = true) : frE (entF e) = some e := by
  obtain ⟨h1, h2, h3, h4, h5⟩ := entB_yes h
  obtain ⟨tm, kd, bd⟩ := e
  simp only at h1 h2 h3 h4 h5
  obtain ⟨n, rfl⟩ := Int.eq_ofNat_of_zero_le (show 0 ≤ tm by omega)
  obtain ⟨m, rfl⟩ := Int.eq_ofNat_of_zero_le h3
  obtain ⟨b, hb⟩ : ∃ b, putS (n : Int) ++ putS (m : Int) ++ putT bd = b := ⟨_, rfl⟩
  have e0 : b.extract 0 b.size = putS (n : Int) ++ (putS (m : Int) ++ putT bd) := by rw [← ByteArray.append_assoc, hb]; apply ByteArray.ext; simp
  obtain ⟨a1, a2, a3⟩ := stp_at e0 (Nat.zero_le _) (by omega)
  obtain ⟨b1, b2, b3⟩ := stp_at a3 a2 (by omega)
  have c1 := txp_at (x := bd) (t := ⟨#[]⟩) (by rw [b3, app_none]) b2 (by omega)
  have hsz : 0 + (putS (n : Int)).size + (putS (m : Int)).size + (putT bd).size = b.size := by rw [← hb, ByteArray.size_append, ByteArray.size_append]; omega
  unfold frE entF
  simp only [hb, a1, b1, c1, hsz, and_self, if_true]
theorem logE_back (term : Int) (R : List (Int × ByteArray)) : ∀ (l acc : List Ent), acc.length + l.length ≤ 500 → okE term (prevT acc acc.length) l = true → logE term acc (l.map entF ++ R) = logE term (acc ++ l) R
  | [], acc, _, _ => by rw [List.map_nil, List.nil_append, List.append_nil]
  | e :: l, acc, hl, hk => by
    rw [okE, Bool.and_eq_true] at hk
    have hf := hk.1
    unfold folB at hf
    rw [Bool.and_eq_true] at hf
    rw [List.length_cons] at hl
    rw [List.map_cons, List.cons_append, logE, acc_yes (frE_ent hf.1) (by omega) hk.1]
    simp only
    have hp : prevT (acc ++ [e]) (acc ++ [e]).length = e.term := by
      rw [List.length_append, List.length_singleton, prevT]
      simp
    rw [logE_back term R l (acc ++ [e]) (by rw [List.length_append, List.length_singleton]; omega) (by rw [hp]; exact hk.2), List.append_assoc, List.singleton_append]
theorem okE_ent (term : Int) : ∀ (l : List Ent) (p : Int), okE term p l = true → ∀ e ∈ l, entB e.term e.kind e.body = true
  | [], p, _, e, he => by cases he
  | x :: l, p, h, e, he => by
    rw [okE, Bool.and_eq_true] at h
    rcases List.mem_cons.1 he with rfl | he
    · have hf := h.1
      unfold folB at hf
      rw [Bool.and_eq_true] at hf
      exact hf.1
    · exact okE_ent term l _ h.2 e he
theorem jou_parts {t v : Int} {es : List Ent} (h : jouB t v es = true) : es.length ≤ 500 ∧ okE t 0 es = true := by
  unfold jouB at h
  simp only [Bool.and_eq_true, decide_eq_true_eq] at h
  exact h.2
/-- A right log comes back from its bytes. -/
theorem log_whole {t v : Int} {es : List Ent} (h : jouB t v es = true) : logF (catQ es) t = es := by
  obtain ⟨h1, h2⟩ := jou_parts h
  have hb := okE_ent t es 0 h2
  unfold logF
  rw [← catF_ent es hb, read_whole _ (fun x hx => by obtain ⟨e, he, rfl⟩ := List.mem_map.1 hx; exact entF_ok (hb e he)) (by rw [List.length_map]; omega)]
  have := logE_back t [] es [] (by simpa using h1) h2
  rw [List.append_nil] at this
  rw [this]
  rfl
/-- And so it does where bytes stand behind it that are no frame. -/
theorem log_torn {t v : Int} {es : List Ent} (h : jouB t v es = true) (r : ByteArray) (hr : frC r ≠ 0) : logF (catQ es ++ r) t = es := by
  obtain ⟨h1, h2⟩ := jou_parts h
  have hb := okE_ent t es 0 h2
  unfold logF
  rw [← catF_ent es hb, read_torn _ r (fun x hx => by obtain ⟨e, he, rfl⟩ := List.mem_map.1 hx; exact entF_ok (hb e he)) (by rw [List.length_map]; omega) hr]
  have := logE_back t [] es [] (by simpa using h1) h2
  rw [List.append_nil] at this
  rw [this]
  rfl
/-- An entry whose text is cut short is not recovered. -/
theorem log_cutoff {t v : Int} {es : List Ent} (h : jouB t v es = true) {e : Ent} (he : entB e.term e.kind e.body = true) (m : Nat) (hm : m < (entT e.term e.kind e.body).size) : logF (catQ es ++ (entT e.term e.kind e.body).extract 0 m) t = es := by
  have hk := entF_ok he
  have e1 : entT e.term e.kind e.body = frameB 2 (entF e).2 := by unfold entT; rw [if_pos he]; rfl
  rw [e1] at hm ⊢
  exact log_torn h _ (frame_cut 2 _ (by decide) (by decide) hk.2.2 m hm)
/-- A vote comes back from its text. -/
theorem vote_back {t v : Int} (ht : 0 ≤ t ∧ t ≤ 1000000000000) (hv : 0 ≤ v ∧ v ≤ 1000000000000) : votF (voteB t v) = some (t, v) := by
  have h1 := putS_size t
  have h2 := putS_size v
  have hz : (putS t ++ putS v).size ≤ 20000 := by rw [ByteArray.size_append]; omega
  have hr := read_whole [(1, putS t ++ putS v)] (fun x hx => by obtain rfl : x = _ := List.mem_singleton.1 hx; exact ⟨by show (1 : Int) ≤ 1; decide, by show (1 : Int) ≤ 100; decide, hz⟩) (by show 1 ≤ 1000; decide)
  have hc : catF [(1, putS t ++ putS v)] = voteB t v := by rw [catF, catF, app_none]; rfl
  rw [hc] at hr
  obtain ⟨e1, e2, e3⟩ := frame_back 1 (putS t ++ putS v) (by decide) (by decide) hz
  have hn : (szI (voteB t v)).2 = (voteB t v).size := by
    unfold voteB
    rw [e1, (frame_parts 1 (putS t ++ putS v) (by decide) (by decide) hz).1]
  have h3 := read_one (voteB t v) (by rw [← hn]; unfold voteB; rw [e1]; exact Nat.le_add_left _ _) e2 hn
  obtain ⟨n, rfl⟩ := Int.eq_ofNat_of_zero_le ht.1
  obtain ⟨m, rfl⟩ := Int.eq_ofNat_of_zero_le hv.1
  rw [vot_one hr, h3]
  obtain ⟨b, hb⟩ : ∃ b, putS (n : Int) ++ putS (m : Int) = b := ⟨_, rfl⟩
  have e0 : b.extract 0 b.size = putS (n : Int) ++ putS (m : Int) := by rw [hb]; apply ByteArray.ext; simp
  obtain ⟨a1, a2, a3⟩ := stp_at e0 (Nat.zero_le _) (by omega)
  obtain ⟨b1, b2, b3⟩ := stp_at (t := ⟨#[]⟩) (by rw [a3, app_none]) a2 (by omega)
  have hsz : 0 + (putS (n : Int)).size + (putS (m : Int)).size = b.size := by rw [← hb, ByteArray.size_append]; omega
  rw [hb]
  simp only [a1, b1, hsz, and_self, if_true]
end Plain
end Go.Proofs.YtakalfckhailjaaGreat


/- What saving leaves comes back through a loss of power, as mathematics. -/
namespace Go.Proofs.YtakalfckhailjaaGreat
open Go.RowKit Plain
set_option linter.unusedVariables false

namespace Plain
theorem goA_zero : ∀ (xs : List Dop) (fs : List Fl) (n : Nat), n ≤ 200 → (goA fs n xs).1 = 0 → runF fs xs = some (goA fs n xs).2 ∧ n + xs.length ≤ 200 := by
  intro xs
  induction xs with
  | nil => intro fs n hn _; exact ⟨rfl, by simpa using hn⟩
  | cons o l ih =>
    intro fs n hn h
    rw [goA] at h ⊢
    by_cases f1 : formB o = true
    · rw [if_pos f1] at h ⊢
      by_cases b1 : (doF fs o).2 = true
      · rw [if_pos b1] at h ⊢
        by_cases k1 : (decide (n < 200) && filesB (doF fs o).1) = true
        · rw [if_pos k1] at h ⊢
          rw [Bool.and_eq_true, decide_eq_true_eq] at k1
          obtain ⟨h1, h2⟩ := ih (doF fs o).1 (n + 1) (by omega) h
          rw [runF, b1, f1, k1.2]
          exact ⟨h1, by rw [List.length_cons]; omega⟩
        · rw [if_neg k1] at h; exact absurd h (by decide)
      · rw [if_neg b1] at h; exact absurd h (by decide)
    · rw [if_neg f1] at h; exact absurd h (by decide)
theorem runF_cat (xs : List Dop) : ∀ (ops : List Dop) (fs r : List Fl), runF fs ops = some r → runF fs (ops ++ xs) = runF r xs := by
  intro ops
  induction ops with
  | nil => intro fs r h; rw [runF] at h; cases h; rfl
  | cons a t ih =>
    intro fs r h
    rw [List.cons_append, runF]
    rw [runF] at h
    split at h
    · rename_i hc
      rw [if_pos hc]
      exact ih _ _ h
    · cases h
/-- Ops that are done on a disk leave a disk. -/
theorem act_run {live safe : List Fl} {ops xs : List Dop} (h : diskB live safe ops = true) (hc : actC live safe ops xs = 0) : diskB (actL live safe ops xs) (actS live safe ops) (actO live safe ops xs) = true ∧ filesB (actL live safe ops xs) = true := by
  unfold actC at hc
  rw [h, if_pos rfl] at hc
  obtain ⟨hf, hr⟩ := disk_run h
  obtain ⟨hf2, hn, -⟩ := disk_parts h
  obtain ⟨e1, hl⟩ := goA_zero xs live ops.length hn hc
  have hg := goA_fit xs live ops.length hf hc
  unfold actL actS actO
  rw [h, if_pos rfl, if_pos rfl, if_pos rfl, if_pos hc, if_pos hc]
  refine ⟨?_, hg⟩
  unfold diskB
  rw [hg, hf2, runF_cat xs ops safe live hr, e1, List.length_append]
  show (true && (true && (decide (ops.length + xs.length ≤ 200) && sameF (goA live ops.length xs).2 (goA live ops.length xs).2))) = true
  rw [same_self, decide_eq_true (by omega)]
  rfl
theorem syn_run {live safe : List Fl} {ops xs : List Dop} (h : diskB live safe ops = true) (hc : actC live safe ops xs = 0) : synL (actL live safe ops xs) (actS live safe ops) (actO live safe ops xs) = actL live safe ops xs := by
  unfold synL
  rw [if_pos (act_run h hc).1]

/-- What an op makes of a table. -/
noncomputable def stepT (f : ByteArray → Option ByteArray) (o : Dop) : ByteArray → Option ByteArray :=
  if o.kind = 1 then updT f o.name (some ((f o.name).getD ⟨#[]⟩ ++ o.data))
  else if o.kind = 2 then (match f o.name with | none => f | some d => updT (updT f o.name none) o.to (some d))
  else updT f o.name none
theorem do_tab {fs : List Fl} (h : Risen fs) {o : Dop} (ho : formB o = true) : tabF (doF fs o).1 = stepT (tabF fs) o := by
  have hk : o.kind = 1 ∨ o.kind = 2 ∨ o.kind = 3 := by
    unfold formB at ho
    simp only [Bool.and_eq_true, decide_eq_true_eq] at ho
    omega
  unfold stepT
  rcases hk with k | k | k
  · rw [if_pos k]; exact (do_app h o k).2
  · rw [if_neg (by omega), if_pos k]; exact (do_ren h o k).2
  · rw [if_neg (by omega), if_neg (by omega)]; exact (do_rem h o k).2
theorem goA_tab : ∀ (xs : List Dop) (fs : List Fl) (n : Nat), Risen fs → (goA fs n xs).1 = 0 → tabF (goA fs n xs).2 = xs.foldl stepT (tabF fs) := by
  intro xs
  induction xs with
  | nil => intro fs n _ _; rfl
  | cons o l ih =>
    intro fs n hr h
    rw [goA] at h ⊢
    by_cases f1 : formB o = true
    · rw [if_pos f1] at h ⊢
      by_cases b1 : (doF fs o).2 = true
      · rw [if_pos b1] at h ⊢
        by_cases k1 : (decide (n < 200) && filesB (doF fs o).1) = true
        · rw [if_pos k1] at h ⊢
          rw [ih (doF fs o).1 (n + 1) (risen_do hr o) h, do_tab hr f1]
          rfl
        · rw [if_neg k1] at h; exact absurd h (by decide)
      · rw [if_neg b1] at h; exact absurd h (by decide)
    · rw [if_neg f1] at h; exact absurd h (by decide)
theorem act_tab {live safe : List Fl} {ops xs : List Dop} (h : diskB live safe ops = true) (hc : actC live safe ops xs = 0) : tabF (actL live safe ops xs) = xs.foldl stepT (tabF live) := by
  have hr := (files_ok (disk_run h).1).2
  unfold actC at hc
  rw [h, if_pos rfl] at hc
  unfold actL
  rw [h, if_pos rfl, if_pos hc]
  exact goA_tab xs live ops.length hr hc
theorem none_app (b : ByteArray) : (⟨#[]⟩ : ByteArray) ++ b = b := by apply ByteArray.ext; simp
/-- Texts of entries that are appended. -/
theorem apps_tab : ∀ (es : List Ent) (f : ByteArray → Option ByteArray), ((es.map entO).foldl stepT f logN).getD ⟨#[]⟩ = (f logN).getD ⟨#[]⟩ ++ catQ es ∧ ∀ x, x ≠ logN → (es.map entO).foldl stepT f x = f x := by
  intro es
  induction es with
  | nil => intro f; exact ⟨by rw [catQ, app_none]; rfl, fun x _ => rfl⟩
  | cons e l ih =>
    intro f
    have e1 : stepT f (entO e) = updT f logN (some ((f logN).getD ⟨#[]⟩ ++ entT e.term e.kind e.body)) := by unfold stepT entO; rw [if_pos rfl]
    obtain ⟨h1, h2⟩ := ih (stepT f (entO e))
    rw [List.map_cons, List.foldl_cons]
    refine ⟨?_, fun x hx => ?_⟩
    · rw [h1, e1, catQ]
      unfold updT
      rw [if_pos rfl]
      show ((f logN).getD ⟨#[]⟩ ++ entT e.term e.kind e.body) ++ catQ l = _
      rw [ByteArray.append_assoc]
    · rw [h2 x hx, e1]
      unfold updT
      rw [if_neg hx]
/-- A file that was replaced. -/
theorem reps_tab {live safe : List Fl} {ops : List Dop} {fr nm dt : ByteArray} (hd : diskB live safe ops = true) (hne : nm ≠ fr) : (repX live safe ops fr nm dt).foldl stepT (tabF live) nm = some dt ∧ ∀ x, x ≠ nm → x ≠ fr → (repX live safe ops fr nm dt).foldl stepT (tabF live) x = tabF live x := by
  have key : ∀ f : ByteArray → Option ByteArray, f fr = none → stepT (stepT f ⟨1, fr, ⟨#[]⟩, dt⟩) ⟨2, fr, nm, ⟨#[]⟩⟩ = updT (updT (updT f fr (some dt)) fr none) nm (some dt) := by
    intro f hf
    have e1 : stepT f ⟨1, fr, ⟨#[]⟩, dt⟩ = updT f fr (some dt) := by
      unfold stepT
      rw [if_pos rfl]
      show updT f fr (some ((f fr).getD ⟨#[]⟩ ++ dt)) = _
      rw [hf]
      show updT f fr (some (⟨#[]⟩ ++ dt)) = _
      rw [none_app]
    rw [e1]
    have e2 : updT f fr (some dt) fr = some dt := by unfold updT; rw [if_pos rfl]
    unfold stepT
    rw [if_neg (by show ¬ (2 : Int) = 1; decide), if_pos rfl]
    simp only [e2]
  have fin : ∀ f : ByteArray → Option ByteArray, f fr = none → (∀ x, x ≠ fr → f x = tabF live x) → updT (updT (updT f fr (some dt)) fr none) nm (some dt) nm = some dt ∧ ∀ x, x ≠ nm → x ≠ fr → updT (updT (updT f fr (some dt)) fr none) nm (some dt) x = tabF live x := by
    intro f hf hx
    refine ⟨by unfold updT; rw [if_pos rfl], fun x h1 h2 => ?_⟩
    unfold updT
    rw [if_neg h1, if_neg h2, if_neg h2]
    exact hx x h2
  have hfile : fileF live safe ops fr = tabF live fr := by unfold fileF; rw [if_pos hd]
  unfold repX
  rw [hfile]
  cases ht : tabF live fr with
  | none =>
    simp only [Option.isSome, Bool.false_eq_true, if_false, List.foldl_cons, List.foldl_nil]
    rw [key (tabF live) ht]
    exact fin (tabF live) ht (fun x _ => rfl)
  | some d =>
    simp only [Option.isSome, if_true, List.foldl_cons, List.foldl_nil]
    have e3 : stepT (tabF live) ⟨3, fr, ⟨#[]⟩, ⟨#[]⟩⟩ = updT (tabF live) fr none := by
      unfold stepT
      rw [if_neg (by show ¬ (3 : Int) = 1; decide), if_neg (by show ¬ (3 : Int) = 2; decide)]
    have e4 : updT (tabF live) fr none fr = none := by unfold updT; rw [if_pos rfl]
    rw [e3, key _ e4]
    exact fin _ e4 (fun x h => by unfold updT; rw [if_neg h])

theorem rec_disk {L : List Fl} (h : filesB L = true) : recT L L [] = (match votD L with | none => (false, 0, 0, []) | some (t, v) => (true, t, v, logD L t)) := by
  unfold recT
  rw [if_pos (disk_synced h)]
  cases votD L with
  | none => rfl
  | some p => rfl
theorem rec_parts {live safe : List Fl} {ops : List Dop} (h : (recT live safe ops).1 = true) : diskB live safe ops = true ∧ votD live = some ((recT live safe ops).2.1, (recT live safe ops).2.2.1) ∧ (recT live safe ops).2.2.2 = logD live (recT live safe ops).2.1 := by
  unfold recT at h ⊢
  by_cases hd : diskB live safe ops = true
  · rw [if_pos hd] at h ⊢
    cases hv : votD live with
    | none => rw [hv] at h; cases h
    | some p => obtain ⟨t, v⟩ := p; exact ⟨hd, rfl, rfl⟩
  · rw [if_neg hd] at h; cases h
/-- What saving entries leaves, recovered. -/
theorem se_rec {live safe : List Fl} {ops : List Dop} {fm : Int} {xs : List Ent} (hb : seB live safe ops fm xs = true) (hc : actC live safe ops (seX live safe ops fm xs) = 0) :
    filesB (actL live safe ops (seX live safe ops fm xs)) = true ∧ recT (actL live safe ops (seX live safe ops fm xs)) (actL live safe ops (seX live safe ops fm xs)) [] = (true, (recT live safe ops).2.1, (recT live safe ops).2.2.1, seE live safe ops fm xs) := by
  have hb' := hb
  unfold seB at hb'
  simp only [Bool.and_eq_true, decide_eq_true_eq] at hb'
  obtain ⟨h1, ⟨h2, h3⟩, hj⟩ := hb'
  obtain ⟨hd, hv, hl⟩ := rec_parts h1
  have hf := (act_run hd hc).2
  have ht := act_tab hd hc
  have hsame := se_same hb
  obtain ⟨L, hL⟩ : ∃ L, L = actL live safe ops (seX live safe ops fm xs) := ⟨_, rfl⟩
  rw [← hL] at hf ht ⊢
  have key : tabF L voteN = tabF live voteN ∧ (tabF L logN).getD ⟨#[]⟩ = catQ (seE live safe ops fm xs) := by
    rw [ht]
    unfold seX
    by_cases ha : seA live safe ops fm = true
    · rw [if_pos ha]
      obtain ⟨a1, a2⟩ := apps_tab xs (tabF live)
      refine ⟨a2 voteN (by decide), ?_⟩
      rw [a1]
      have := hsame.2 ha
      unfold seD at this
      rw [this]
      unfold seE
      rw [catQ_app]
    · rw [if_neg ha]
      obtain ⟨a1, a2⟩ := reps_tab (dt := catQ (seE live safe ops fm xs)) hd (show logN ≠ logNew by decide)
      exact ⟨a2 voteN (by decide) (by decide), by rw [a1]; rfl⟩
  have hv2 : votD L = some ((recT live safe ops).2.1, (recT live safe ops).2.2.1) := by
    unfold votD at hv ⊢
    rw [key.1]
    exact hv
  refine ⟨hf, ?_⟩
  rw [rec_disk hf, hv2]
  show (true, _, _, logD L _) = _
  unfold logD
  rw [key.2, log_whole hj]
/-- What saving a vote leaves, recovered. -/
theorem sv_rec {live safe : List Fl} {ops : List Dop} {t v : Int} (hb : svB live safe ops t v = true) (hc : actC live safe ops (svX live safe ops t v) = 0) :
    filesB (actL live safe ops (svX live safe ops t v)) = true ∧ ∃ es, recT (actL live safe ops (svX live safe ops t v)) (actL live safe ops (svX live safe ops t v)) [] = (true, t, v, es) := by
  unfold svB at hb
  simp only [Bool.and_eq_true] at hb
  obtain ⟨h1, ht0, hv0, -⟩ := hb
  obtain ⟨hd, -, -⟩ := rec_parts h1
  have hf := (act_run hd hc).2
  have ht := act_tab hd hc
  obtain ⟨L, hL⟩ : ∃ L, L = actL live safe ops (svX live safe ops t v) := ⟨_, rfl⟩
  rw [← hL] at hf ht ⊢
  unfold svX at ht
  have a1 := (reps_tab (dt := voteB t v) hd (show voteN ≠ voteNew by decide)).1
  rw [← ht] at a1
  unfold numB at ht0 hv0
  simp only [Bool.and_eq_true, decide_eq_true_eq] at ht0 hv0
  have hv2 : votD L = some (t, v) := by
    unfold votD
    rw [a1]
    exact vote_back ht0 hv0
  refine ⟨hf, logD L t, ?_⟩
  rw [rec_disk hf, hv2]
/-- Codes that are nought. -/
theorem se_zero {live safe : List Fl} {ops : List Dop} {fm : Int} {xs : List Ent} (hc : dnC live safe ops (seB live safe ops fm xs) 11 (seX live safe ops fm xs) = 0) :
    ∃ L, filesB L = true ∧ dnL live safe ops (seB live safe ops fm xs) (seX live safe ops fm xs) = L ∧ dnS live safe ops (seB live safe ops fm xs) (seX live safe ops fm xs) = L ∧ dnO live safe ops (seB live safe ops fm xs) (seX live safe ops fm xs) = [] ∧ recT L L [] = (true, (recT live safe ops).2.1, (recT live safe ops).2.2.1, seE live safe ops fm xs) ∧ (recT live safe ops).1 = true ∧ 0 ≤ fm ∧ fm ≤ ((recT live safe ops).2.2.2.length : Int) := by
  unfold dnC at hc
  by_cases hd : diskB live safe ops = true
  · rw [if_pos hd] at hc
    by_cases hb : seB live safe ops fm xs = true
    · rw [if_pos hb] at hc
      obtain ⟨r1, r2⟩ := se_rec hb hc
      obtain ⟨e1, e2, e3⟩ := fn_zero hc
      rw [syn_run hd hc] at e1 e2
      have hb' := hb
      unfold seB at hb'
      simp only [Bool.and_eq_true, decide_eq_true_eq] at hb'
      obtain ⟨h1, ⟨h2, h3⟩, hj⟩ := hb'
      refine ⟨actL live safe ops (seX live safe ops fm xs), r1, ?_, ?_, ?_, r2, h1, h2, h3⟩
      · unfold dnL; rw [if_pos hd, if_pos hb, e1]
      · unfold dnS; rw [if_pos hd, if_pos hb, e2]
      · unfold dnO; rw [if_pos hd, if_pos hb, e3]
    · rw [if_neg hb] at hc; cases hc
  · rw [if_neg hd] at hc; cases hc
theorem sv_zero {live safe : List Fl} {ops : List Dop} {t v : Int} (hc : svC live safe ops t v = 0) :
    ∃ L es, filesB L = true ∧ svL live safe ops t v = L ∧ svS live safe ops t v = L ∧ svO live safe ops t v = [] ∧ recT L L [] = (true, t, v, es) := by
  unfold svC at hc
  by_cases hd : diskB live safe ops = true
  · rw [if_pos hd] at hc
    by_cases hb : svB live safe ops t v = true
    · rw [if_pos hb] at hc
      obtain ⟨r1, es, r2⟩ := sv_rec hb hc
      refine ⟨actL live safe ops (svX live safe ops t v), es, r1, ?_, ?_, ?_, r2⟩
      · unfold svL; rw [if_pos hd, if_pos hb, if_pos hc, syn_run hd hc]
      · unfold svS; rw [if_pos hd, if_pos hb, if_pos hc, syn_run hd hc]
      · unfold svO; rw [if_pos hd, if_pos hb, if_pos hc]
    · rw [if_neg hb] at hc; cases hc
  · rw [if_neg hd] at hc; cases hc
end Plain
end Go.Proofs.YtakalfckhailjaaGreat


/- Recover of the specification. -/
namespace Go.Proofs.YtakalfckhailjaaGreat
open Go.RowKit Plain
set_option linter.unusedVariables false

theorem recT_no {live safe : List Fl} {ops : List Dop} (h : (recT live safe ops).1 = false) : recT live safe ops = (false, 0, 0, []) := by
  unfold recT at h ⊢
  split
  · rename_i hd
    rw [if_pos hd] at h
    split
    · rfl
    · rename_i t v hv
      rw [hv] at h
      cases h
  · rfl

set_option maxRecDepth 10000 in
set_option maxHeartbeats 4000000 in
theorem spec_Recover (aL : Option Addr) (nL cL : Nat) (live : List Fl) (aS : Option Addr) (nS cS : Nat) (safe : List Fl) (aO : Option Addr) (nO cO : Nat) (ops : List Dop) (w : World) (h : DiskAt w aL nL cL live aS nS cS safe aO nO cO ops) :
    Calls Tryz.prog 9 #[.agg #[.slice aL nL cL, .slice aS nS cS, .slice aO nO cO]] w fun e w' => ∃ sl, e = .returned (.tuple #[.agg #[.int .i64 (recT live safe ops).2.1, .int .i64 (recT live safe ops).2.2.1, sl], .bool (recT live safe ops).1]) ∧ OwnR entE w' w.heap.size sl (recT live safe ops).2.2.2 ∧ Below w.heap.size w w' := by
  obtain ⟨W0, hW0⟩ : ∃ W0, W0 = (w.alloc (.cells #[.slice aL nL cL, .slice aS nS cS, .slice aO nO cO] 27)).alloc (.cells #[.int .i64 0, .int .i64 0, .slice none 0 0] 34) := ⟨_, rfl⟩
  have hb0 : Below w.heap.size w W0 := by rw [hW0]; exact belOn (bel1 _ _) (bel1 _ _)
  have hz0 : W0.heap.size = w.heap.size + 2 := by rw [hW0]; simp
  have c0 : W0.cell? ⟨w.heap.size, 0, none⟩ = some (.slice aL nL cL) := by rw [hW0]; simp [go_sem]
  have c1 : W0.cell? ⟨w.heap.size, 1, none⟩ = some (.slice aS nS cS) := by rw [hW0]; simp [go_sem]
  have c2 : W0.cell? ⟨w.heap.size, 2, none⟩ = some (.slice aO nO cO) := by rw [hW0]; simp [go_sem]
  have r0 : W0.cell? ⟨w.heap.size + 1, 0, none⟩ = some (.int .i64 0) := by rw [hW0]; simp [go_sem]
  have r1 : W0.cell? ⟨w.heap.size + 1, 1, none⟩ = some (.int .i64 0) := by rw [hW0]; simp [go_sem]
  have r2 : W0.cell? ⟨w.heap.size + 1, 2, none⟩ = some (.slice none 0 0) := by rw [hW0]; simp [go_sem]
  have y0 : W0.frozen? ⟨w.heap.size + 1, 0, none⟩ = false := by rw [hW0]; simp [go_sem]
  have y1 : W0.frozen? ⟨w.heap.size + 1, 1, none⟩ = false := by rw [hW0]; simp [go_sem]
  have y2 : W0.frozen? ⟨w.heap.size + 1, 2, none⟩ = false := by rw [hW0]; simp [go_sem]
  have HD := hide (fun (W : World) (hW : Below W0.heap.size W0 W) => (h.below hb0).below hW)
  have HC := hide (fun (W : World) (hW : Below W0.heap.size W0 W) => And.intro (bcl hW (by omega) c0) (And.intro (bcl hW (by omega) c1) (bcl hW (by omega) c2)))
  have HR := hide (fun (W : World) (hW : Below W0.heap.size W0 W) => And.intro (And.intro (bcl hW (by omega) r0) (And.intro (bcl hW (by omega) r1) (bcl hW (by omega) r2))) (And.intro ((hW.frozen (p := ⟨w.heap.size + 1, 0, none⟩) (by show w.heap.size + 1 < _; omega)).trans y0) (And.intro ((hW.frozen (p := ⟨w.heap.size + 1, 1, none⟩) (by show w.heap.size + 1 < _; omega)).trans y1) ((hW.frozen (p := ⟨w.heap.size + 1, 2, none⟩) (by show w.heap.size + 1 < _; omega)).trans y2))))
  have HFIN := hide (fun (W : World) (hW : Below W0.heap.size W0 W) => belOn hb0 hW)
  have HZ0 := hide hz0
  have HW0 := hide hW0.symm
  have HNO := hide (recT_no (live := live) (safe := safe) (ops := ops))
  have HDF := hide (show diskB live safe ops = false → recT live safe ops = (false, 0, 0, []) from fun q => by unfold recT; rw [q, if_neg (by simp)])
  have HDS := hide (fun (W : World) (hW : Below W0.heap.size W0 W) (q : diskB live safe ops = true) => l5Disk_calls aL nL cL live aS nS cS safe aO nO cO ops W ((h.below hb0).below hW) q)
  clear h hb0 c0 c1 c2 r0 r1 r2 y0 y1 y2 hW0 hz0
  generalize recT live safe ops = R at HNO HDF HDS ⊢
  cases hd : diskB live safe ops with
  | false =>
    rw [unhide HDF hd]
    have HX := hide hd
    clear hd HDF HDS HNO
    go_enter Tryz.func9, Tryz.ntmps9
    go_wp2_with fail
    rw [unhide HW0]
    obtain ⟨q0, q1, q2⟩ := unhide HC W0 (Below.refl _ _)
    go_wp2_with fail
    refine (spec_DiskOk aL nL cL live aS nS cS safe aO nO cO ops W0 (unhide HD _ (Below.refl _ _))).mono ?_
    rintro e w1 ⟨rfl, hb1⟩
    rw [unhide HX]
    have HB1 := hide (unhide HFIN _ hb1)
    obtain ⟨⟨r0, r1, r2⟩, y0, y1, y2⟩ := unhide HR _ hb1
    clear hb1
    go_wp2_with fail
    refine bodyPost_ret (v := .tuple #[.agg #[.int .i64 0, .int .i64 0, .slice none 0 0], .bool false]) (by simp [results, Tryz.results9, go_sem, r0, r1, r2]) rfl ⟨_, rfl, ownR_nil _ _ _, ?_⟩
    exact below3S (unhide HB1) (Nat.le_succ _)
  | true =>
    have HX := hide hd
    have HDS2 := hide (fun (W : World) (hW : Below W0.heap.size W0 W) => unhide HDS W hW hd)
    clear hd HDF HDS
    obtain ⟨ok, t, v, es⟩ := R
    simp only [] at HNO HDS2 ⊢
    have hz := unhide HZ0
    cases ok with
    | false =>
      have hno := unhide HNO rfl
      simp only [Prod.mk.injEq, true_and] at hno
      obtain ⟨rfl, rfl, rfl⟩ := hno
      go_enter Tryz.func9, Tryz.ntmps9
      go_wp2_with fail
      rw [unhide HW0]
      refine (spec_DiskOk aL nL cL live aS nS cS safe aO nO cO ops W0 (unhide HD _ (Below.refl _ _))).mono ?_
      rintro e w1 ⟨rfl, hb1⟩
      rw [unhide HX]
      obtain ⟨q0, q1, q2⟩ := unhide HC _ hb1
      have HB1 := hide hb1
      clear hb1
      go_wp2_with fail
      refine (unhide HDS2 _ (unhide HB1)).mono ?_
      rintro e w2 ⟨sl, rfl, ho, hb2⟩
      obtain ⟨a5, c5, rfl⟩ := ho.form
      obtain ⟨⟨r0, r1, r2⟩, y0, y1, y2⟩ := unhide HR _ (belOn (belOn (unhide HB1) hb2) (bel1 w2 (.cells #[.int .i64 0, .int .i64 0, .slice a5 0 c5] 34)))
      have HB2 := hide (unhide HFIN _ (belOn (unhide HB1) hb2))
      clear hb2 ho
      go_wp2_with fail
      refine bodyPost_ret (v := .tuple #[.agg #[.int .i64 0, .int .i64 0, .slice none 0 0], .bool false]) (by simp [results, Tryz.results9, go_sem, r0, r1, r2]) rfl ⟨_, rfl, ownR_nil _ _ _, ?_⟩
      exact below3S (belOn (unhide HB2) (bel1 _ _)) (Nat.le_succ _)
    | true =>
      clear HNO
      go_enter Tryz.func9, Tryz.ntmps9
      go_wp2_with fail
      rw [unhide HW0]
      refine (spec_DiskOk aL nL cL live aS nS cS safe aO nO cO ops W0 (unhide HD _ (Below.refl _ _))).mono ?_
      rintro e w1 ⟨rfl, hb1⟩
      rw [unhide HX]
      obtain ⟨q0, q1, q2⟩ := unhide HC _ hb1
      have HB1 := hide hb1
      clear hb1
      go_wp2_with fail
      refine (unhide HDS2 _ (unhide HB1)).mono ?_
      rintro e w2 ⟨sl, rfl, ho, hb2⟩
      obtain ⟨a5, c5, rfl⟩ := ho.form
      obtain ⟨⟨r0, r1, r2⟩, y0, y1, y2⟩ := unhide HR _ (belOn (belOn (unhide HB1) hb2) (bel1 w2 (.cells #[.int .i64 t, .int .i64 v, .slice a5 es.length c5] 34)))
      have HB2 := hide (unhide HFIN _ (belOn (unhide HB1) hb2))
      have HO2 := hide ho
      have hz1 := (unhide HB1).size
      clear hb2 ho
      go_wp2_with fail
      refine bodyPost_ret (v := .tuple #[.agg #[.int .i64 t, .int .i64 v, .slice a5 es.length c5], .bool true]) (by simp [results, Tryz.results9, go_sem, r0, r1, r2]) rfl ⟨_, rfl, ?_, ?_⟩
      · refine (OwnR.other (unhide HO2) (fun g' hg' => ?_)).le (by omega)
        have := World.ownsRow.lt (unhide HO2) g' hg'
        rw [heap_set (by omega), heap_set (by omega), heap_set (by omega)]
        exact ((bel1 _ _ : Below w2.heap.size w2 _).block g' this.2)
      · exact below3S (belOn (unhide HB2) (bel1 _ _)) (Nat.le_succ _)
end Go.Proofs.YtakalfckhailjaaGreat

