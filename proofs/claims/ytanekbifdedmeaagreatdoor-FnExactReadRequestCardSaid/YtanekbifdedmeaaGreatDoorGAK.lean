/- Texts of one kind, put together. -/
import Derived.Test.YtanekbifdedmeaaGreatDoorRrU
import Derived.Test.YtanekbifdedmeaaGreatDoorGAJ
import Derived.Test.YtanekbifdedmeaaGreatDoorCut

/- A text that is written comes back: the mathematics of the readers of chapter 16. -/
namespace Go.Proofs.YtanekbifdedmeaaGreatDoor
open Go.RowKit Plain
set_option linter.unusedVariables false

namespace Plain
/-- The first of a byte. -/
theorem ix1 (c : UInt8) (r : List UInt8) : ∀ {l : List UInt8}, (∀ x ∈ l, x ≠ c) → Lib.index (l ++ c :: r) [c] = (l.length : Nat)
  | [], _ => by
    rw [List.nil_append, ix_cons, if_pos (by rw [List.isPrefixOf_iff_prefix]; exact ⟨r, rfl⟩)]
    rfl
  | x :: t, h => by
    have hx := h x (by simp)
    rw [List.cons_append, ix_cons, if_neg (by rw [List.isPrefixOf_iff_prefix, List.cons_prefix_cons]; exact fun q => hx q.1.symm), ix1 c r fun y hy => h y (List.mem_cons_of_mem _ hy)]
    have hb : (((t.length : Nat) : Int) == -1) = false := by rw [beq_eq_false_iff_ne]; omega
    rw [hb]
    simp
theorem cut1 (c : UInt8) (l r : List UInt8) : (l ++ c :: r).take l.length = l ∧ (l ++ c :: r).drop (l.length + 1) = r := by
  refine ⟨List.take_left, ?_⟩
  rw [show l ++ c :: r = (l ++ [c]) ++ r from by simp, show l.length + 1 = (l ++ [c]).length from by simp, List.drop_left]
end Plain
end Go.Proofs.YtanekbifdedmeaaGreatDoor


/- The first line of a request, as both readers read it: mathematics. -/
namespace Go.Proofs.YtanekbifdedmeaaGreatDoor
open Go.RowKit Plain
set_option linter.unusedVariables false

namespace Plain
def httpL : List UInt8 := [72, 84, 84, 80, 47, 49, 46, 49]
/-- A row of a query: its name and its value. -/
def pairF (l : List UInt8) : Hd := (bU (l.take (Lib.index l [61]).toNat), bU (l.drop ((Lib.index l [61]).toNat + 1)))
def qryF : List (List UInt8) → Option (List Hd)
  | [] => some []
  | l :: ls => if Lib.index l [61] < 0 then none else match qryF ls with
    | none => none
    | some r => some (pairF l :: r)
/-- A target: its path and its query. -/
def tgtF (b : List UInt8) : Option (List UInt8 × List Hd) :=
  if Lib.index b [63] < 0 then some (b, []) else match qryF (splt 38 (b.drop ((Lib.index b [63]).toNat + 1))) with
    | none => none
    | some qs => some (b.take (Lib.index b [63]).toNat, qs)
def wrdF : List (List UInt8) → Option (List UInt8 × List UInt8)
  | [a, b, c] => if c = httpL then some (a, b) else none
  | _ => none
/-- The first line. -/
def askF (l : List UInt8) : Option (ByteArray × ByteArray × List Hd) := match wrdF (splt 32 l) with
  | none => none
  | some (a, b) => match tgtF b with
    | none => none
    | some (p, qs) => if askB (bU a) (bU p) qs = true then some (bU a, bU p, qs) else none
/-- A request's text: a code, and what was read. -/
def reqF (s : List UInt8) : Int × (ByteArray × ByteArray × List Hd) × List Hd × List UInt8 :=
  if 40000 < s.length then (1, (⟨#[]⟩, ⟨#[]⟩, []), [], [])
  else if Lib.index s [13, 10] < 0 then (2, (⟨#[]⟩, ⟨#[]⟩, []), [], [])
  else match askF (s.take (Lib.index s [13, 10]).toNat) with
    | none => (2, (⟨#[]⟩, ⟨#[]⟩, []), [], [])
    | some q => if (talF (numG 20000) (s.drop ((Lib.index s [13, 10]).toNat + 2))).1 = 0 then (0, q, (talF (numG 20000) (s.drop ((Lib.index s [13, 10]).toNat + 2))).2)
      else ((talF (numG 20000) (s.drop ((Lib.index s [13, 10]).toNat + 2))).1, (⟨#[]⟩, ⟨#[]⟩, []), [], [])
theorem wrdF_no {l : List (List UInt8)} (h : l.length ≠ 3) : wrdF l = none := by
  match l, h with
  | [], _ => rfl
  | [_], _ => rfl
  | [_, _], _ => rfl
  | [_, _, _], h => exact absurd rfl h
  | _ :: _ :: _ :: _ :: _, _ => rfl
theorem ask_facts {l : List UInt8} {m p : ByteArray} {qs : List Hd} (h : askF l = some (m, p, qs)) : askB m p qs = true := by
  unfold askF at h
  split at h
  · cases h
  · split at h
    · cases h
    · split at h
      · rename_i q
        cases h
        exact q
      · cases h
theorem splt_size (m : Nat) : ∀ l : List UInt8, ∀ x ∈ splt m l, x.length ≤ l.length
  | [], x, hx => by
    rw [splt] at hx
    rw [List.mem_singleton.1 hx]
    exact Nat.le_refl _
  | c :: l, x, hx => by
    have ih := splt_size m l
    rw [splt] at hx
    split at hx
    · rcases List.mem_cons.1 hx with rfl | hx
      · simp
      · have := ih x hx
        simp only [List.length_cons]
        omega
    · obtain ⟨h, t, e⟩ := splt_ne m l
      rw [e] at hx ih
      rcases List.mem_cons.1 hx with rfl | hx
      · have := ih h (by simp)
        simp only [List.length_cons]
        omega
      · have := ih x (List.mem_cons_of_mem _ hx)
        simp only [List.length_cons]
        omega
/-- What was read so far, and what is left. -/
def qryA (done : List Hd) (ls : List (List UInt8)) : Option (List Hd) := match qryF ls with
  | none => none
  | some r => some (done ++ r)
theorem qryA_nil (done : List Hd) : qryA done [] = some done := by
  unfold qryA
  rw [qryF]
  simp
theorem qryA_start (ls : List (List UInt8)) : qryA [] ls = qryF ls := by
  unfold qryA
  cases qryF ls <;> simp
theorem qryA_no {done : List Hd} {l : List UInt8} {ls : List (List UInt8)} (h : Lib.index l [61] = -1) : qryA done (l :: ls) = none := by
  unfold qryA
  rw [qryF, h, if_pos (by decide)]
theorem qryA_yes {done : List Hd} {l : List UInt8} {ls : List (List UInt8)} {K : Nat} (h : Lib.index l [61] = (K : Nat)) : qryA done (l :: ls) = qryA (done ++ [(bU (l.take K), bU (l.drop (K + 1)))]) ls := by
  unfold qryA
  rw [qryF, h, if_neg (by omega)]
  have e : pairF l = (bU (l.take K), bU (l.drop (K + 1))) := by unfold pairF; rw [h, Int.toNat_natCast]
  rw [e]
  cases qryF ls <;> simp
theorem ix1_or (c : UInt8) : ∀ l : List UInt8, (Lib.index l [c] = -1 ∧ ∀ x ∈ l, x ≠ c) ∨ ∃ a b, l = a ++ c :: b ∧ (∀ x ∈ a, x ≠ c) ∧ Lib.index l [c] = (a.length : Nat)
  | [] => .inl ⟨rfl, fun x hx => by simp at hx⟩
  | y :: l => by
    by_cases h : y = c
    · subst h
      refine .inr ⟨[], l, rfl, fun x hx => by simp at hx, ?_⟩
      have := ix1 y l (l := []) (fun x hx => by simp at hx)
      simpa using this
    · rcases ix1_or c l with ⟨h1, h2⟩ | ⟨a, b, rfl, h2, h3⟩
      · refine .inl ⟨?_, fun x hx => ?_⟩
        · rw [ix_cons, if_neg (by rw [List.isPrefixOf_iff_prefix, List.cons_prefix_cons]; exact fun q => h q.1.symm), h1]
          rfl
        · rcases List.mem_cons.1 hx with rfl | hx
          · exact h
          · exact h2 x hx
      · have h4 : ∀ x ∈ y :: a, x ≠ c := fun x hx => by
          rcases List.mem_cons.1 hx with rfl | hx
          · exact h
          · exact h2 x hx
        exact .inr ⟨y :: a, b, rfl, h4, ix1 c b h4⟩
theorem u8_ne {x c : UInt8} {m : Nat} (hc : c.toNat = m) (h : x ≠ c) : x.toNat ≠ m := fun q => h (UInt8.toNat_inj.1 (q.trans hc.symm))
/-- The pieces, by where the sign first stands. -/
theorem splt_no {c : UInt8} {m : Nat} (hc : c.toNat = m) {l : List UInt8} (h : Lib.index l [c] = -1) : splt m l = [l] := by
  rcases ix1_or c l with ⟨_, h2⟩ | ⟨a, b, _, _, h3⟩
  · exact splt_end m l fun x hx => u8_ne hc (h2 x hx)
  · omega
theorem splt_ix {c : UInt8} {m : Nat} (hc : c.toNat = m) {l : List UInt8} {K : Nat} (h : Lib.index l [c] = (K : Nat)) : splt m l = l.take K :: splt m (l.drop (K + 1)) := by
  rcases ix1_or c l with ⟨h1, _⟩ | ⟨a, b, rfl, h2, h3⟩
  · omega
  · obtain rfl : K = a.length := by omega
    rw [(cut1 c a b).1, (cut1 c a b).2]
    exact splt_at m a b c hc fun x hx => u8_ne hc (h2 x hx)
end Plain
end Go.Proofs.YtanekbifdedmeaaGreatDoor

