/- Texts of one kind, put together. -/
import Derived.Test.YtdmkephnpmglkaaGreatDoorRzM
import Derived.Test.YtdmkephnpmglkaaGreatDoorRzS
import Derived.Test.YtdmkephnpmglkaaGreatDoorRis
import Derived.Test.YtdmkephnpmglkaaGreatDoorRzB
import Derived.Test.YtdmkephnpmglkaaGreatDoorMem

/- What moves when one node with the greatest number is added: plain mathematics. -/
namespace Go.Proofs.YtdmkephnpmglkaaGreatDoor
open Go.RowKit Plain
set_option linter.unusedVariables false

namespace Plain
theorem mem_take_le {α : Type} {o : List α} {i j : Nat} (h : i ≤ j) {y : α} (hy : y ∈ o.take i) : y ∈ o.take j := by
  rw [show i = min i j from by omega, ← List.take_take] at hy
  exact List.mem_of_mem_take hy
theorem ins_take {x : Int} {o : List Int} {p K : Nat} {y : Int} (h : y ∈ (insAt x o p).take K) : y = x ∨ y ∈ o.take K := by
  unfold insAt at h
  rw [List.take_append, List.mem_append] at h
  rcases h with h | h
  · rw [List.take_take] at h
    exact .inr (mem_take_le (by omega) h)
  · rw [List.length_take] at h
    cases ht : K - min p o.length with
    | zero => rw [ht] at h; simp at h
    | succ t =>
      rw [ht, List.take_succ_cons, List.mem_cons] at h
      rcases h with h | h
      · exact .inl h
      · right
        rcases Nat.lt_or_ge o.length p with hp | hp
        · rw [List.drop_of_length_le (by omega)] at h
          simp at h
        · rw [List.take_drop] at h
          exact mem_take_le (by omega) (List.mem_of_mem_drop h)
theorem rk_snoc (f : Int → Int) (l : List Int) (x : Int) : rk f (l ++ [x]) = insK f x (rk f l) := by
  unfold rk
  rw [List.foldl_append]
  rfl
theorem hld_snoc {f : Int → Int} {l : List Int} {x : Int} {K : Nat} {y : Int} (h : y ∈ hld f (l ++ [x]) K) : y = x ∨ y ∈ hld f l K := by
  rw [hld_mem, rk_snoc] at h
  rw [hld_mem]
  unfold insK at h
  exact ins_take h
theorem okIds_nodup (l : List Int) (h : okIds 0 l = true) : l.Nodup := (okIds_facts l 0 (by decide) h).1
theorem cmr_mem {f : Int → Int} {l : List Int} {x : Int} {K : Nat} {y : Int} (h : y ∈ cmr f l (l ++ [x]) K) : y = x := by
  unfold cmr at h
  rw [List.mem_filter] at h
  rcases hld_snoc h.1 with q | q
  · exact q
  · have h2 := h.2
    rw [decide_eq_true q] at h2
    cases h2
theorem cmr_one (f : Int → Int) (l : List Int) (x : Int) (K : Nat) (h : okIds 0 (l ++ [x]) = true) : cmr f l (l ++ [x]) K = [] ∨ (cmr f l (l ++ [x]) K = [x] ∧ x ∈ hld f (l ++ [x]) K) := by
  have hn : (cmr f l (l ++ [x]) K).Nodup := okIds_nodup _ (cmr_ok f l (l ++ [x]) K h)
  have hm : ∀ y ∈ cmr f l (l ++ [x]) K, y = x := fun y hy => cmr_mem hy
  have hs : ∀ y ∈ cmr f l (l ++ [x]) K, y ∈ hld f (l ++ [x]) K := fun y hy => by unfold cmr at hy; exact (List.mem_filter.1 hy).1
  generalize cmr f l (l ++ [x]) K = c at hn hm hs
  match c, hn, hm, hs with
  | [], _, _, _ => exact .inl rfl
  | [a], _, hm, hs =>
    obtain rfl := hm a (by simp)
    exact .inr ⟨rfl, hs a (by simp)⟩
  | a :: b :: r, hn, hm, _ =>
    have h1 := hm a (by simp)
    have h2 := hm b (by simp)
    rw [List.nodup_cons] at hn
    exact absurd (by rw [h1, h2]; simp) hn.1
/-- Numbers that are all among others and each once are no more. -/
theorem nodup_lenI : ∀ (l m : List Int), l.Nodup → (∀ x ∈ l, x ∈ m) → l.length ≤ m.length
  | [], m, _, _ => by simp
  | a :: l, m, hn, h => by
    have ha := h a (by simp)
    obtain ⟨m1, m2, rfl⟩ := List.append_of_mem ha
    rw [List.nodup_cons] at hn
    have := nodup_lenI l (m1 ++ m2) hn.2 fun x hx => by
      have h1 := h x (List.mem_cons_of_mem _ hx)
      rw [List.mem_append, List.mem_cons] at h1
      rw [List.mem_append]
      rcases h1 with q | rfl | q
      · exact .inl q
      · exact absurd hx hn.1
      · exact .inr q
    rw [List.length_cons, List.length_append, List.length_cons]
    rw [List.length_append] at this
    omega
theorem filt_both (p : Int → Bool) : ∀ l : List Int, l.length = (l.filter p).length + (l.filter fun x => !p x).length
  | [] => rfl
  | a :: l => by
    have := filt_both p l
    rw [List.filter_cons, List.filter_cons, List.length_cons]
    cases hp : p a <;> simp <;> omega
/-- What the old holders lose is no more than what comes. -/
theorem lost_le (f : Int → Int) (l : List Int) (x : Int) (K : Nat) (h : okIds 0 (l ++ [x]) = true) (hl : okIds 0 l = true) : ((hld f l K).filter fun y => !decide (y ∈ hld f (l ++ [x]) K)).length ≤ (cmr f l (l ++ [x]) K).length := by
  have hA := hld_count f l K hl
  have hB := hld_count f (l ++ [x]) K h
  have nA := okIds_nodup _ (hld_ok f l K hl)
  have nB := okIds_nodup _ (hld_ok f (l ++ [x]) K h)
  unfold cmr
  rw [List.length_append, List.length_singleton] at hB
  generalize hld f l K = A at hA nA
  generalize hld f (l ++ [x]) K = B at hB nB
  have e1 := filt_both (fun y => decide (y ∈ B)) A
  have e2 := filt_both (fun y => decide (y ∈ A)) B
  have e3 : (B.filter fun y => decide (y ∈ A)).length ≤ (A.filter fun y => decide (y ∈ B)).length := nodup_lenI _ _ (nB.filter _) fun y hy => by
    rw [List.mem_filter] at hy ⊢
    exact ⟨of_decide_eq_true hy.2, decide_eq_true hy.1⟩
  omega
theorem digs_sub (bs zs : List Int) (K : Nat) (h : ∀ d, (mv1 bs zs K d).length ≤ 1) : ∀ ds : List ByteArray, ((mvs bs zs K ds).map Cpy.dig).Sublist ds
  | [] => by simp [mvs]
  | d :: ds => by
    have ih := digs_sub bs zs K h ds
    have h1 := h d
    have hd : ∀ e ∈ mv1 bs zs K d, e.dig = d := by
      intro e he
      unfold mv1 at he
      obtain ⟨y, _, rfl⟩ := List.mem_map.1 he
      rfl
    unfold mvs at ih ⊢
    rw [List.flatMap_cons, List.map_append]
    generalize mv1 bs zs K d = c at h1 hd
    match c, h1, hd with
    | [], _, _ => exact ih.cons d
    | [e], _, hd =>
      have := hd e (by simp)
      subst this
      exact ih.cons_cons e.dig
    | _ :: _ :: _, h1, _ => simp at h1
theorem okS_pair : ∀ (l : List ByteArray) (p : Option ByteArray), okS p l = true → l.Pairwise ltB ∧ ∀ q, p = some q → ∀ s ∈ l, ltB q s
  | [], _, _ => ⟨List.Pairwise.nil, fun _ _ _ hs => by cases hs⟩
  | s :: r, p, h => by
    rw [okS, Bool.and_eq_true, Bool.and_eq_true] at h
    obtain ⟨h1, h2⟩ := okS_pair r (some s) h.2
    refine ⟨List.pairwise_cons.2 ⟨fun y hy => h2 s rfl y hy, h1⟩, ?_⟩
    rintro q rfl y hy
    have h3 : ltB q s := (less_ltB q s).1 h.1.2
    rcases List.mem_cons.1 hy with rfl | hy
    · exact h3
    · exact ltB_trans h3 (h2 s rfl y hy)
theorem setB_nodup {ds : List ByteArray} (h : setB ds = true) : ds.Nodup := by
  unfold setB at h
  rw [Bool.and_eq_true] at h
  exact (okS_pair ds none h.2).1.imp fun {a b} q e => by subst e; exact ltB_irrefl _ q
/-- One node more, the greatest: each move goes to it, and no blob moves twice. -/
theorem mvs_one (ls : List Int) (x : Int) (K : Nat) (ds : List ByteArray) (h : okIds 0 (ls ++ [x]) = true) (hd : setB ds = true) :
    (∀ e ∈ mvs ls (ls ++ [x]) K ds, e.dst = x) ∧ ((mvs ls (ls ++ [x]) K ds).map Cpy.dig).Nodup := by
  constructor
  · intro e he
    unfold mvs at he
    obtain ⟨d, _, he⟩ := List.mem_flatMap.1 he
    unfold mv1 at he
    obtain ⟨y, hy, rfl⟩ := List.mem_map.1 he
    exact cmr_mem hy
  · refine (digs_sub ls (ls ++ [x]) K (fun d => ?_) ds).nodup (setB_nodup hd)
    unfold mv1
    rw [List.length_map]
    rcases cmr_one (wt d) ls x K h with q | ⟨q, _⟩ <;> rw [q] <;> simp
/-- At most one holder is lost, and then the new one is a holder. -/
theorem lost_one (f : Int → Int) (l : List Int) (x : Int) (K : Nat) (h : okIds 0 (l ++ [x]) = true) (hl : okIds 0 l = true) :
    ((hld f l K).filter fun y => !decide (y ∈ hld f (l ++ [x]) K)).length = 0 ∨ (((hld f l K).filter fun y => !decide (y ∈ hld f (l ++ [x]) K)).length = 1 ∧ x ∈ hld f (l ++ [x]) K) := by
  have h1 := lost_le f l x K h hl
  rcases cmr_one f l x K h with q | ⟨q, hx⟩
  · rw [q, List.length_nil] at h1
    exact .inl (by omega)
  · rw [q, List.length_singleton] at h1
    rcases Nat.eq_zero_or_pos ((hld f l K).filter fun y => !decide (y ∈ hld f (l ++ [x]) K)).length with q | q
    · exact .inl q
    · exact .inr ⟨by omega, hx⟩
end Plain
end Go.Proofs.YtdmkephnpmglkaaGreatDoor


/- Whether a number is among others, by the laws. -/
namespace Go.Proofs.YtdmkephnpmglkaaGreatDoor
open Go.RowKit Plain
set_option linter.unusedVariables false

set_option maxRecDepth 10000 in
set_option maxHeartbeats 1000000 in
theorem hasIntR_calls (a : Option Addr) (n c : Nat) (ls : List Int) (x : Int) (w : World) (h : IntsAt w a n ls) :
    Calls Tryz.prog 9 #[.slice a n c, .int .i64 x] w fun e w' => e = .returned (.bool (decide (x ∈ ls))) ∧ w = w' := by
  have HH := hide h
  have hbn := h.bn
  clear h
  obtain ⟨R, hR⟩ : ∃ R, decide (x ∈ ls) = R := ⟨_, rfl⟩
  rw [hR]
  have HR := hide hR
  clear hR
  obtain ⟨w0, rfl⟩ : ∃ w0, w0 = w := ⟨_, rfl⟩
  go_enter Tryz.func9, Tryz.ntmps9
  go_wp2_with fail
  go_loopw [5] (fun i wr => ∃ k : Nat, i = .int .i64 k ∧ k ≤ n ∧ Hid (decide (x ∈ ls.drop k) = R) ∧ wr = w0) (fun i _ => n - (intOf i).toNat)
  case atStart => exact ⟨0, rfl, by omega, hide (unhide HR), rfl⟩
  case round =>
    obtain ⟨k, rfl, hk, HO, rfl⟩ := hrel
    by_cases hkn : k < n
    · have hkl : k < ls.length := by rw [(unhide HH).len]; exact hkn
      obtain ⟨g, e1, l1, p0, -⟩ := (unhide HH).row.ix k hkl
      have hst := unhide HO
      rw [List.drop_eq_getElem_cons hkl] at hst
      generalize ls[k] = y at p0 hst
      subst e1
      have i0 : (0 : Int) ≤ (k : Int) := by omega
      have i1 : (k : Int) < (n : Int) := by omega
      clear HO
      by_cases hxy : y = x
      · subst hxy
        have HX := hide (show R = true from by rw [← hst]; simp)
        clear hst
        go_wp2_with fail
        go_ret
        exact ⟨by rw [unhide HX]; rfl, rfl⟩
      · have HX := hide (show decide (x ∈ ls.drop (k + 1)) = R from by rw [← hst]; exact decide_eq_decide.2 (by rw [List.mem_cons]; exact ⟨fun q => .inr q, fun q => q.resolve_left (fun q2 => hxy q2.symm)⟩))
        have hne : (y == x) = false := by rw [beq_eq_false_iff_ne]; exact hxy
        clear hst
        go_wp2_with fail
        go_roundw
        case rel => exact ⟨k + 1, by go_num, by omega, HX, trivial⟩
        case measure => simp [intOf]; omega
    · obtain rfl : k = n := by omega
      have hO := unhide HO
      rw [List.drop_of_length_le (by rw [(unhide HH).len]; exact Nat.le_refl _)] at hO
      have HX := hide (show R = false from by rw [← hO]; rfl)
      clear hO HO
      go_wp2_with fail
      go_ret
      exact ⟨by rw [unhide HX]; rfl, rfl⟩
end Go.Proofs.YtdmkephnpmglkaaGreatDoor


/- The laws' own test of a code's length. -/
namespace Go.Proofs.YtdmkephnpmglkaaGreatDoor
open Go.RowKit Plain
set_option linter.unusedVariables false

theorem big_calls (a : Option Addr) (len cap : Nat) (w : World) (h : len ≤ maxLen) :
    Calls Tryz.prog 4 #[.slice a len cap] w fun e w' => e = .returned (.bool (decide (1048576 < (len : Int)))) ∧ w = w' := by
  unfold maxLen at h
  go_enter Tryz.func4, Tryz.ntmps4
  go_wp2
  go_ret
  exact ⟨rfl, rfl⟩

namespace Plain
theorem IsRow.len {w : World} {k : IntKind} {a : Option Addr} {len cap : Nat} {zs : List Int} (h : IsRow k w a len cap zs) : len ≤ maxLen := by
  rcases h with ⟨_, h, _⟩ | ⟨x, _, h1, h2, _⟩
  · omega
  · omega
end Plain
end Go.Proofs.YtdmkephnpmglkaaGreatDoor

