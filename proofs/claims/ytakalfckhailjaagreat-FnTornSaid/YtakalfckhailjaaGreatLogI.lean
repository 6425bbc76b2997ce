/- A log, as the program reads it. -/
import Derived.Test.YtakalfckhailjaaGreatGAT
import Derived.Test.YtakalfckhailjaaGreatGBC
import Derived.Test.YtakalfckhailjaaGreatGBD
import Derived.Test.YtakalfckhailjaaGreatGAD
namespace Go.Proofs.YtakalfckhailjaaGreat
open Go.RowKit Plain
set_option linter.unusedVariables false
attribute [local go_sem] Oper.semAt_some

theorem records_calls (s : ByteArray) (w : World) : Calls Tryz.prog 93 #[.string s] w fun e w' => e = .returned (.func (.func 117) #[] #[.pointer (some ⟨w.heap.size, 0, none⟩)]) ∧ w' = w.alloc (.cells #[.string s] 9) := by
  go_enter Tryz.func93, Tryz.ntmps93
  go_wp2_with fail
  go_ret
  exact ⟨rfl, rfl⟩

theorem appL {α : Type} {e : Elem α} {F : Fence} {n : Nat} {ops : Array Oper} {rest : List Oper} {o : Oper} {a : Act} {Q : Exit → Act → World → Prop} (hgd : o.guard = none) (s x : Operand)
    (ho : o.op = .call { callee := .builtin .append, args := #[s, x], argTypes := #[e.S, e.S] })
    {w : World} {B : Nat} {v : Value} {xs : List α} (hown : OwnR e w B v xs) (hs : a.eval s = v) (y : α) {cs : Array Value} (hcs : cs.toList = e.enc y)
    (gx : Nat) (hx : a.eval x = .slice (some ⟨gx, 0, none⟩) 1 1) (hgx : gx = w.heap.size) (hlen : xs.length < 100000000) (hB : B ≤ w.heap.size)
    (h : ∀ v' w', OwnR e w' B v' (xs ++ [y]) → Below B w w' → (w.alloc (.cells cs e.E)).grownBy w' v.ownBlock → wpListIn F n Tryz.prog ops Q rest (a.put o.dst v') w') :
    wpListIn F n Tryz.prog ops Q (o :: rest) a (w.alloc (.cells cs e.E)) := by
  subst hgx
  obtain ⟨i0, hi, hz0, hz1, hz2⟩ := info_parts e.hinfo
  have ha := World.ownsRow.alloc hown (.cells cs e.E)
  have hnew : (w.alloc (.cells cs e.E)).heap[w.heap.size]? = some (.cells cs e.E) := heap_alloc_new _ _
  have hby := e.hb
  refine wpListIn_append_own _ hgd s x e.S ho B e.E i0 e.zero e.n e.bytes e.hund hi hz0 hz1 hz2 e.hz e.hn v xs.length (xs.flatMap e.enc) hs ha
    ⟨w.heap.size, 0, none⟩ 1 1 (e.enc y) hx (by rw [e.hlen, Nat.one_mul]) (by rw [← hcs]; exact World.news_of_block hnew) (e.hone y) (by unfold maxLen; omega) ?_ (by simp; omega) ?_
  · exact Nat.le_trans (Nat.mul_le_mul_left _ hby) (by omega)
  · intro v' w' h1 h2 _
    refine h v' w' ?_ (((Below.refl B w).alloc hB _).trans (own_below ha h2 (by simp; omega))) h2
    unfold OwnR
    rw [List.flatMap_append, List.length_append]
    simpa using h1
theorem Plain.ownKeepL {α : Type} {e : Elem α} {W W' : World} {B : Nat} {v : Value} {xs : List α} (h : OwnR e W B v xs) (hh : ∀ g, v.ownBlock = some g → W'.heap[g]? = W.heap[g]?) : OwnR e W' B v xs := by
  refine ⟨h.1, ?_⟩
  rcases h.2 with ⟨q, c⟩ | ⟨g, cap, cur, q, c, d, r⟩
  · exact .inl ⟨q, c⟩
  · exact .inr ⟨g, cap, cur, q, c, (hh g (by rw [q]; rfl)).trans d, r⟩
/-- What lies in memory while a log is read. -/
structure Plain.LogK (term : Int) (w : World) (be bt B : Nat) (acc : List Ent) (v : Value) (X : World) : Prop where
  box : X.heap[be]? = some (.cells #[v] 28 (0, 0))
  trm : X.cell? ⟨bt, 0, none⟩ = some (.int .i64 term)
  own : OwnR entE X B v acc
  bel : Below w.heap.size w X
theorem Plain.own_from {α : Type} {e : Elem α} {X : World} {B g : Nat} {v : Value} {xs : List α} (h : OwnR e X B v xs) (hg : v.ownBlock = some g) : B ≤ g := by
  rcases h.2 with ⟨q, _⟩ | ⟨g1, cap, cur, q, c, d, r⟩
  · rw [q] at hg; cases hg
  · rw [q] at hg
    have : g1 = g := Option.some.inj hg
    omega
theorem Plain.LogK.keep {term : Int} {w : World} {be bt B : Nat} {acc : List Ent} {v : Value} {X X' : World} {p : Nat → Prop} (h : LogK term w be bt B acc v X) (ho : OnlyP p X X') (h1 : ¬ p be) (h2 : ¬ p bt) (h3 : ∀ g, v.ownBlock = some g → ¬ p g) (h4 : ∀ k, p k → w.heap.size ≤ k) : LogK term w be bt B acc v X' := by
  refine ⟨(ho.block _ (Array.getElem?_eq_some_iff.1 h.box).1 h1).trans h.box, (World.cell?_of_block (a := ⟨bt, 0, none⟩) (ho.block bt (lt_of_cell h.trm) h2)).trans h.trm, ?_, h.bel.trans (ho.below h4 h.bel.size)⟩
  refine ⟨h.own.1, ?_⟩
  rcases h.own.2 with ⟨q, c⟩ | ⟨g, cap, cur, q, c, d, r⟩
  · exact .inl ⟨q, c⟩
  · exact .inr ⟨g, cap, cur, q, c, (ho.block g (Array.getElem?_eq_some_iff.1 d).1 (h3 g (by rw [q]; rfl))).trans d, r⟩

set_option maxRecDepth 10000 in
set_option maxHeartbeats 4000000 in
theorem readLog_calls (s : ByteArray) (term : Int) (w : World) (hs : s.size ≤ 1000000000) :
    Calls Tryz.prog 50 #[.string s, .int .i64 term] w fun e w' => ∃ v, e = .returned v ∧ OwnR entE w' w.heap.size v (logF s term) ∧ Below w.heap.size w w' := by
  refine (callsIn_wide (n := 3)).1 ?_
  have hro : Fence.wide.round = none := rfl
  refine callsIn_of_wp_marks Tryz.func50 rfl trivial ?_ hro
  simp only [Tryz.ntmps50, List.size_toArray, List.length_cons, List.length_nil, Nat.reduceAdd, Nat.reduceSub, Array.replicate_succ, Array.replicate_zero, List.push_toArray, List.append_toArray, List.nil_append, List.cons_append]
  gi_wp2_with (first
    | (refine ⟨trivial, ?_⟩; gi_at_call 93; refine ((callsIn_wide (n := 2)).2 (records_calls s _)).mono ?_; rintro e w1 ⟨rfl, rfl⟩)
    | gi_in)
  obtain ⟨W0, hW0⟩ : ∃ W0, ((w.alloc (.cells #[.int .i64 term] 2)).alloc (.cells #[.slice none 0 0] 28)).alloc (.cells #[.string s] 9) = W0 := ⟨_, rfl⟩
  have hz : W0.heap.size = w.heap.size + 3 := by rw [← hW0]; simp
  have hb0 : Below w.heap.size w W0 := by rw [← hW0]; exact frOn (frOn (newB _ _) (newB _ _)) (newB _ _)
  have ct : W0.cell? ⟨w.heap.size, 0, none⟩ = some (.int .i64 term) := by rw [← hW0]; simp [go_sem]
  have cd : W0.cell? ⟨w.heap.size + 2, 0, none⟩ = some (.string s) := by rw [← hW0]; simp [go_sem]
  have hbx : W0.heap[w.heap.size + 1]? = some (.cells #[.slice none 0 0] 28 (0, 0)) := by
    rw [← hW0]
    refine keepObj (newB _ _) _ _ ?_
    have := heap_alloc_new (w.alloc (.cells #[.int .i64 term] 2)) (.cells #[.slice none 0 0] 28)
    rwa [World.size_alloc] at this
  rw [hW0]
  clear hW0
  refine range_frames s (w.heap.size + 2) cd hs rfl rfl
    (fun R p X => ∃ acc v, LMid s term acc p ∧ LogK term w (w.heap.size + 1) w.heap.size (W0.heap.size + 2) acc v X ∧ (∀ g, v.ownBlock = some g → g ≠ R) ∧ W0.heap.size + 2 ≤ R ∧ R < X.heap.size)
    (fun c X => c = .exit 0 ∧ ∃ v, LogK term w (w.heap.size + 1) w.heap.size (W0.heap.size + 2) (logF s term) v X)
    (fun R p X ⟨_, _, _, _, _, h, _⟩ => h)
    ?_ ?_ ?_ ?round ?done ?stop
  · rintro R p X X' ⟨acc, v, hM, hL, hv, hR1, hR2⟩ ho
    exact ⟨acc, v, hM, hL.keep ho (by omega) (by omega) (fun g hg => by have := hv g hg; have := own_from hL.own hg; omega) (fun k hk => by omega), hv, hR1, Nat.lt_of_lt_of_le hR2 ho.size⟩
  · rintro c X X' ⟨rfl, v, hL⟩ ho
    exact ⟨rfl, v, hL.keep ho (by omega) (by omega) (fun g hg => by have := own_from hL.own hg; omega) (fun k hk => by omega)⟩
  · intro R X hb hR hl
    exact ⟨[], .slice none 0 0, LMid.start s term, ⟨keepObj hb _ _ hbx, cellKeep hb ct, ownR_nil _ _ _, frOn hb0 hb⟩, (fun g hg => by cases hg), hR, hl⟩
  case round =>
    rintro R p X ⟨acc, v, hM, hL, hv, hR1, hR2⟩ hcR hp hz0
    obtain ⟨k, hk⟩ : ∃ k : Int, ((bAt (s.extract p s.size) 0 : Nat) : Int) = k := ⟨_, rfl⟩
    obtain ⟨b, hbb⟩ : ∃ b, frB (s.extract p s.size) = b := ⟨_, rfl⟩
    have hbz : b.size ≤ 1000000000 := by
      rw [← hbb]
      unfold frB
      simp only [ByteArray.size_extract]
      omega
    have hfm : frm (s.extract p s.size) = (k, b) := by unfold frm; rw [hk, hbb]
    have HST := hide (hM.stop hp hz0)
    have HNX := hide (fun e => hM.next (e := e) hp hz0)
    rw [hfm] at HST HNX
    have hm := hM.le
    generalize p + frN (s.extract p s.size) = pn at HNX ⊢
    rw [hk, hbb]
    obtain ⟨va, vc, rfl⟩ := hL.own.form
    gi_wp2
    refine ⟨newB _ _, fun w2 ho2 ⟨rr, hl2⟩ hd2 => ?_⟩
    have hxz : X.heap.size < (X.alloc (.cells #[.int .i64 k, .string b] 95)).heap.size := by simp
    have f0 : w2.cell? ⟨X.heap.size, 0, none⟩ = some (.int .i64 k) := (World.cell?_of_block (a := ⟨X.heap.size, 0, none⟩) (ho2.block _ hxz (by show ¬ (X.heap.size = W0.heap.size + 1); omega))).trans (by simp [go_sem])
    have f1 : w2.cell? ⟨X.heap.size, 1, none⟩ = some (.string b) := (World.cell?_of_block (a := ⟨X.heap.size, 1, none⟩) (ho2.block _ hxz (by show ¬ (X.heap.size = W0.heap.size + 1); omega))).trans (by simp [go_sem])
    have hLx : LogK term w (w.heap.size + 1) w.heap.size (W0.heap.size + 2) acc (.slice va acc.length vc) (X.alloc (.cells #[.int .i64 k, .string b] 95)) := hL.keep (p := fun _ => False) (OnlyP.of (newB _ _)) id id (fun _ _ => id) (fun _ h => h.elim)
    have hL2 := hLx.keep ho2 (by omega) (by omega) (fun g hg => by have := own_from hL.own hg; omega) (fun k hk => by omega)
    have hR3 : w2.heap[R]? = X.heap[R]? := (ho2.block R (by simp; omega) (by omega)).trans ((newB X _).block R hR2)
    have hs2 : X.heap.size < w2.heap.size := Nat.lt_of_lt_of_le hxz ho2.size
    have hrs := rawE_small b (by omega)
    have HRE := hide (CallsIn.inRound (W0.heap.size + 1) ((callsIn_wide (n := 0)).2 (readEntryX_calls k b w2 (by omega))))
    generalize rawE b = e0 at HRE hrs
    obtain ⟨tm, kd, bd⟩ := e0
    simp only [] at HRE hrs
    have HFO := hide (fun (W : World) (hW : RowAt entE W va acc) => CallsIn.inRound (W0.heap.size + 1) ((callsIn_wide (n := 0)).2 (follows_calls tm kd bd va acc.length vc acc term W (Nat.le_refl _) (by omega) (by omega) hW)))
    have hbl0 : ∀ (W : World), Below w2.heap.size w2 W → (W.heap[W0.heap.size + 1]? = w2.heap[W0.heap.size + 1]? ∧ W.heap[W0.heap.size]? = w2.heap[W0.heap.size]?) ∧ W.heap[R]? = X.heap[R]? := fun W hW => ⟨⟨hW.block _ (by omega), hW.block _ (by omega)⟩, (hW.block R (by omega)).trans hR3⟩
    have HBL := hide hbl0
    have HL2 := hide hL2
    clear hLx ho2 hL hbl0 hL2
    cases hfr : frE (k, b) with
    | none =>
      have hlg := unhide HST (acc_no (fun e he => by rw [hfr] at he; cases he))
      rw [hfr] at HRE
      have HLG := hide hlg
      clear hlg hfr
      gi_wp2_with (first
        | (refine ⟨trivial, ?_⟩; gi_at_call 94; refine (unhide HRE).mono ?_; rintro e w3 ⟨gd, rfl, hfe, hb3⟩; obtain rfl : gd = false := (by cases gd with | false => rfl | true => simp at hfe))
        | gi_in)
      refine ⟨trivial, ?_⟩
      gi_wp2
      have hbb3 : Below w2.heap.size w2 (w3.alloc (.cells #[.int .i64 tm, .int .i64 kd, .string bd] 45)) := frOn hb3 (newB _ _)
      exact ⟨(unhide HBL _ hbb3).1, rfl, _, by rw [unhide HLG]; exact (unhide HL2).keep (p := fun _ => False) (OnlyP.of hbb3) id id (fun _ _ => id) (fun _ h => h.elim)⟩
    | some e1 =>
      rw [hfr] at HRE
      cases hfo : (decide (acc.length < 500) && folB term (prevT acc acc.length) ⟨tm, kd, bd⟩) with
      | false =>
        rw [hfo] at HFO
        gi_wp2_with (first
          | (refine ⟨trivial, ?_⟩; gi_at_call 94; refine (unhide HRE).mono ?_; rintro e w3 ⟨gd, rfl, hfe, hb3⟩; obtain rfl : gd = true := (by cases gd with | true => rfl | false => simp at hfe); have hbb3 : Below w2.heap.size w2 (w3.alloc (.cells #[.int .i64 tm, .int .i64 kd, .string bd] 45)) := frOn hb3 (newB _ _); have hL3 := (unhide HL2).keep (p := fun _ => False) (OnlyP.of hbb3) id id (fun _ _ => id) (fun _ h => h.elim); have hcb := (cell_of_row _ _ 0 _ _ _ hL3.box); have hct := hL3.trm)
          | (refine ⟨trivial, ?_⟩; gi_at_call 81; refine (unhide HFO _ hL3.own.at).mono ?_; rintro e w5 ⟨rfl, hb5⟩)
          | gi_in)
        have hlg := unhide HST (acc_no (fun e he => by
          rw [hfr] at he
          cases he
          simp only [if_true, Option.some.injEq] at hfe
          rw [hfe]
          exact hfo))
        have hbb5 : Below w2.heap.size w2 w5 := frOn hbb3 hb5
        exact ⟨(unhide HBL _ hbb5).1, rfl, _, by rw [hlg]; exact (unhide HL2).keep (p := fun _ => False) (OnlyP.of hbb5) id id (fun _ _ => id) (fun _ h => h.elim)⟩
      | true =>
        rw [hfo] at HFO
        have hlen : acc.length < 100000000 := by omega
        gi_wp2_with (first
          | (refine ⟨trivial, ?_⟩; gi_at_call 94; refine (unhide HRE).mono ?_; rintro e w3 ⟨gd, rfl, hfe, hb3⟩; obtain rfl : gd = true := (by cases gd with | true => rfl | false => simp at hfe); have hbb3 : Below w2.heap.size w2 (w3.alloc (.cells #[.int .i64 tm, .int .i64 kd, .string bd] 45)) := frOn hb3 (newB _ _); have hL3 := (unhide HL2).keep (p := fun _ => False) (OnlyP.of hbb3) id id (fun _ _ => id) (fun _ h => h.elim); have hcb := (cell_of_row _ _ 0 _ _ _ hL3.box); have hct := hL3.trm)
          | (refine ⟨trivial, ?_⟩; gi_at_call 81; refine (unhide HFO _ hL3.own.at).mono ?_; rintro e w5 ⟨rfl, hb5⟩; have hbb5 : Below w2.heap.size w2 w5 := frOn hbb3 hb5; have hL5 := (unhide HL2).keep (p := fun _ => False) (OnlyP.of hbb5) id id (fun _ _ => id) (fun _ h => h.elim); have hcb5 := (cell_of_row _ _ 0 _ _ _ hL5.box); have hB5 : W0.heap.size + 2 ≤ w5.heap.size := (by have := hbb5.size; omega); have he0 := cellKeep hb5 (show (w3.alloc (.cells #[.int .i64 tm, .int .i64 kd, .string bd] 45)).cell? ⟨w3.heap.size, 0, none⟩ = some (.int .i64 tm) from by simp [go_sem]); have he1 := cellKeep hb5 (show (w3.alloc (.cells #[.int .i64 tm, .int .i64 kd, .string bd] 45)).cell? ⟨w3.heap.size, 1, none⟩ = some (.int .i64 kd) from by simp [go_sem]); have he2 := cellKeep hb5 (show (w3.alloc (.cells #[.int .i64 tm, .int .i64 kd, .string bd] 45)).cell? ⟨w3.heap.size, 2, none⟩ = some (.string bd) from by simp [go_sem]))
          | (gi_at_builtin; refine appL (e := entE) rfl (.tmp 26) (.tmp 28) rfl hL5.own rfl ⟨tm, kd, bd⟩ rfl _ rfl rfl hlen hB5 ?_; intro v6 w6 hown6 hb6 hg6; obtain ⟨a6, c6, hv6⟩ := hown6.form; subst hv6; have hz6 := hg6.size; have hbx6 : w6.heap[w.heap.size + 1]? = some (.cells #[.slice va acc.length vc] 28 (0, 0)) := (hg6.block (w.heap.size + 1) (by have := hbb5.size; simp; omega) (fun e => by have := own_from hL5.own e.symm; omega)).trans (keepObj (newB _ _) _ _ hL5.box); have hc6 := (cell_of_row _ _ 0 _ _ _ hbx6); have hf6 : w6.frozen? ⟨w.heap.size + 1, 0, none⟩ = false := frozen_of_row _ _ 0 _ _ hbx6)
          | gi_in)
        have hz4 : (acc ++ [(⟨tm, kd, bd⟩ : Ent)]).length = acc.length + 1 := by simp
        rw [hz4] at hown6
        have hfe2 : frE (k, b) = some ⟨tm, kd, bd⟩ := by
          rw [hfr]
          simpa using hfe
        have hfp := hfo
        rw [Bool.and_eq_true] at hfp
        have hacc := unhide HNX _ (acc_yes hfe2 (of_decide_eq_true hfp.1) hfp.2)
        have hg7 := grownBy_setCell' w6 (w.heap.size + 1) (.slice a6 (acc.length + 1) c6)
        have hbx7 : (w6.setCell ⟨w.heap.size + 1, 0, none⟩ (.slice a6 (acc.length + 1) c6)).heap[w.heap.size + 1]? = some (.cells #[.slice a6 (acc.length + 1) c6] 28 (0, 0)) := Boxed.set _ hbx6
        have hz5 : w5.heap.size + 1 ≤ w6.heap.size := by simpa using hg6.size
        have hk6 : ∀ x, x < w5.heap.size → (∀ g, (Value.slice va acc.length vc).ownBlock = some g → g ≠ x) → w6.heap[x]? = w5.heap[x]? := fun x hx hv => (hg6.block x (by simp; omega) (fun e => hv x e.symm rfl)).trans ((newB w5 _).block x hx)
        have hk7 : ∀ x, x < w6.heap.size → x ≠ w.heap.size + 1 → (w6.setCell ⟨w.heap.size + 1, 0, none⟩ (.slice a6 (acc.length + 1) c6)).heap[x]? = w6.heap[x]? := fun x hx hn => hg7.block x hx (fun e => hn (by cases e; rfl))
        have hz6 := hbb5.size
        have hR6 : w6.heap[R]? = X.heap[R]? := (hk6 R (by omega) hv).trans (unhide HBL _ hbb5).2
        have hlow : ∀ x, x < W0.heap.size + 2 → ∀ g, (Value.slice va acc.length vc).ownBlock = some g → g ≠ x := fun x hx g hg e => by have := own_from hL5.own hg; omega
        have hbtl := lt_of_cell hL5.trm
        simp only at hbtl
        refine ⟨⟨(hk7 _ (by omega) (by omega)).trans ((hk6 _ (by omega) (hlow _ (by omega))).trans (unhide HBL _ hbb5).1.1), (hk7 _ (by omega) (by omega)).trans ((hk6 _ (by omega) (hlow _ (by omega))).trans (unhide HBL _ hbb5).1.2), (hk7 R (by omega) (by omega)).trans hR6⟩, acc ++ [⟨tm, kd, bd⟩], _, hacc, ⟨hbx7, ?_, ?_, ?_⟩, ?_, hR1, ?_⟩
        · exact (World.cell?_of_block (a := ⟨w.heap.size, 0, none⟩) ((hk7 w.heap.size (by omega) (by omega)).trans (hk6 w.heap.size hbtl (hlow _ (by omega))))).trans hL5.trm
        · exact ownKeepL hown6 (fun g hg => hk7 g (World.ownsRow.lt hown6 g hg).2 (by have := own_from hown6 hg; omega))
        · exact (hL5.bel.trans (hb6.mono (by omega))).setCell (p := ⟨w.heap.size + 1, 0, none⟩) (by show w.heap.size ≤ w.heap.size + 1; omega) _
        · intro g hg e
          subst e
          obtain ⟨g1, ea, hl1, hc1⟩ := hown6.at 0 (by simp)
          subst ea
          obtain rfl : g1 = g := Option.some.inj hg
          have h1 := (hc1 0 (by decide)).1
          have h2 := (World.cell?_of_block (a := ⟨g1, 0, none⟩) hR6).trans hcR
          rw [show (0 : Nat) * entE.n + 0 = 0 from rfl, h2] at h1
          cases h1
        · rw [World.size_setCell]
          omega
  case done =>
    rintro R p X ⟨acc, v, hM, hL, hv, hR1, hR2⟩ hend hK
    have hlg : logF s term = acc := by
      rcases hend with h | h
      · exact hM.ends h
      · by_cases hp : s.size ≤ p
        · exact hM.ends hp
        · exact hM.code hp h
    have hc0 : X.cell? ⟨w.heap.size + 1, 0, none⟩ = some v := by rw [cell_of_row X _ 0 _ _ _ hL.box]; rfl
    gi_wp2
    rw [hlg]
    refine ⟨by simp, .inl ⟨_, _, rfl, run_takeDeferred hK, ?_⟩⟩
    have hgp := grownBy_putObj' X W0.heap.size (.deferred none)
    exact ⟨_, results_tmp rfl _ _ _, v, rfl, (ownKeepL (hL.own) (fun g hg => hgp.block g (World.ownsRow.lt hL.own g hg).2 (fun e => by have h9 : g = W0.heap.size := (Option.some.inj e); have := own_from hL.own hg; omega))).le (by omega), hL.bel.grown hgp hL.bel.size (fun k e => by cases e; omega)⟩
  case stop =>
    rintro c X ⟨rfl, v, hL⟩ hK
    have hc0 : X.cell? ⟨w.heap.size + 1, 0, none⟩ = some v := by rw [cell_of_row X _ 0 _ _ _ hL.box]; rfl
    gi_wp2
    refine ⟨by simp, .inl ⟨_, _, rfl, run_takeDeferred hK, ?_⟩⟩
    have hgp := grownBy_putObj' X W0.heap.size (.deferred none)
    exact ⟨_, results_tmp rfl _ _ _, v, rfl, (ownKeepL (hL.own) (fun g hg => hgp.block g (World.ownsRow.lt hL.own g hg).2 (fun e => by have h9 : g = W0.heap.size := (Option.some.inj e); have := own_from hL.own hg; omega))).le (by omega), hL.bel.grown hgp hL.bel.size (fun k e => by cases e; omega)⟩
end Go.Proofs.YtakalfckhailjaaGreat
