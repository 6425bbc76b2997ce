/- What is read of a manifest's text: both programs by their contracts. -/
import Derived.Test.YtnkjdojpegmlcaaDoorMan
import Derived.Test.YtnkjdojpegmlcaaDoorCur
import Derived.Test.YtnkjdojpegmlcaaDoorSCut
import Derived.Deep.RegionLaw
namespace Go.Proofs.YtnkjdojpegmlcaaDoor
open Go.RowKit Plain
set_option linter.unusedVariables false

theorem stepR {α : Type} {e : Elem α} {ops : Array Oper} {o : Oper} {a : Act} {K : Act → World → Prop} {Q : Exit → Act → World → Prop} {F : Prop} (hgd : o.guard = none) (s x : Operand)
    (ho : o.op = .call { callee := .builtin .append, args := #[s, x], argTypes := #[e.S, e.S] })
    {w : World} {B : Nat} {v : Value} {xs : List α} (hown : OwnR e w B v xs) (hs : a.eval s = v) (y : α) {cs : Array Value} (hcs : cs.toList = e.enc y)
    (gx : Nat) (hx : a.eval x = .slice (some ⟨gx, 0, none⟩) 1 1) (hgx : gx = w.heap.size) (hlen : xs.length < 100000000) (hB : B ≤ w.heap.size)
    (h : ∀ v' w', OwnR e w' B v' (xs ++ [y]) → Below B w w' → K (a.put o.dst v') w') :
    if Region.wanted o (yielded ops a.tmps) = true then Oper.wp Tryd.prog o a (w.alloc (.cells cs e.E)) K Q else F := by
  subst hgx
  rw [if_pos (by simp [Region.wanted, hgd])]
  obtain ⟨i0, hi, hz0, hz1, hz2⟩ := info_parts e.hinfo
  have ha := World.ownsRow.alloc hown (.cells cs e.E)
  have hnew : (w.alloc (.cells cs e.E)).heap[w.heap.size]? = some (.cells cs e.E) := (MapKept.heap_alloc w _).1
  have hby := e.hb
  refine wp_append_own _ s x e.S ho B e.E i0 e.zero e.n e.bytes e.hund hi hz0 hz1 hz2 e.hz e.hn v xs.length (xs.flatMap e.enc) hs ha
    ⟨w.heap.size, 0, none⟩ 1 1 (e.enc y) hx (by rw [e.hlen, Nat.one_mul]) (by rw [← hcs]; exact World.news_of_block hnew) (e.hone y) (by unfold maxLen; omega) ?_ (by simp; omega) ?_
  · exact Nat.le_trans (Nat.mul_le_mul_left _ hby) (by omega)
  · intro v' w' h1 h2 _
    refine h v' w' ?_ (((Below.refl B w).alloc hB _).trans (own_below ha h2 (by simp; omega)))
    unfold OwnR
    rw [List.flatMap_append, List.length_append]
    simpa using h1
theorem OwnR.only {α : Type} {e : Elem α} {W w' : World} {B : Nat} {v : Value} {xs : List α} {q : Addr} (h : OwnR e W B v xs) (ho : OnlyAt q W w') (hq : q.block < B) : OwnR e w' B v xs := by
  refine ⟨h.1, ?_⟩
  rcases h.2 with ⟨a, c⟩ | ⟨g, cap, cur, rfl, c, d, r⟩
  · exact .inl ⟨a, c⟩
  · have hg : g < W.heap.size := (World.ownsRow.lt h g rfl).2
    exact .inr ⟨g, cap, cur, rfl, c, (ho.block g hg (by omega)).trans d, r⟩
/-- Where the scanner in block b stands. -/
def Plain.posAt (b : Nat) (w : World) : Nat := match w.cell? ⟨b, 1, none⟩ with
  | some (.int _ n) => n.toNat
  | _ => 0
theorem Plain.posAt_of {b : Nat} {w : World} {p : Nat} (h : w.cell? ⟨b, 1, none⟩ = some (.int .i64 p)) : posAt b w = p := by unfold posAt; rw [h]; simp

theorem Plain.okL_parts {h p : ByteArray} (hk : okL h p = true) : h.size ≤ p.size ∧ ((p.extract 0 h.size).toList == h.toList) = true ∧ digB (p.extract h.size p.size) = true := by
  unfold okL at hk
  rw [Bool.and_eq_true, Bool.and_eq_true] at hk
  exact ⟨of_decide_eq_true hk.1.1, hk.1.2, hk.2⟩
theorem Plain.okL_not {h p : ByteArray} (hk : okL h p = false) : (p.size < h.size ∨ h.size ≤ p.size ∧ ((p.extract 0 h.size).toList == h.toList) = false) ∨ (h.size ≤ p.size ∧ ((p.extract 0 h.size).toList == h.toList) = true ∧ digB (p.extract h.size p.size) = false) := by
  unfold okL at hk
  by_cases h1 : h.size ≤ p.size
  · rw [decide_eq_true h1] at hk
    cases h2 : ((p.extract 0 h.size).toList == h.toList) with
    | false => exact .inl (.inr ⟨h1, rfl⟩)
    | true => rw [h2] at hk; exact .inr ⟨h1, rfl, by simpa using hk⟩
  · exact .inl (.inl (by omega))
theorem cutP_yes (s h : ByteArray) (w : World) (hs : s.size ≤ 1000000000000) (hh : h.size ≤ s.size) (h2 : ((s.extract 0 h.size).toList == h.toList) = true) :
    Calls Tryd.prog 44 #[.string s, .string h] w fun e w' => e = .returned (.tuple #[.string (s.extract h.size s.size), .bool true]) ∧ w = w' := by
  have i1 : (h.size : Int) ≤ (s.size : Int) := by omega
  go_enter Tryd.func44, Tryd.ntmps44
  go_wp2
  go_ret2
  exact ⟨rfl, rfl⟩

theorem cutP_no (s h : ByteArray) (w : World) (hs : s.size ≤ 1000000000000) (hz : h.size ≤ 100) (hno : s.size < h.size ∨ h.size ≤ s.size ∧ ((s.extract 0 h.size).toList == h.toList) = false) :
    Calls Tryd.prog 44 #[.string s, .string h] w fun e w' => e = .returned (.tuple #[.string s, .bool false]) ∧ w = w' := by
  rcases hno with hno | ⟨hno, h2⟩
  · go_enter Tryd.func44, Tryd.ntmps44
    go_wp2
    go_ret2
    exact ⟨rfl, rfl⟩
  · have i1 : (h.size : Int) ≤ (s.size : Int) := by omega
    go_enter Tryd.func44, Tryd.ntmps44
    go_wp2
    go_ret2
    exact ⟨rfl, rfl⟩

set_option maxHeartbeats 2000000 in
theorem line_ok (b : Nat) (s h r : ByteArray) (p : Nat) (w : World) (hc0 : w.cell? ⟨b, 0, none⟩ = some (.string s)) (hc1 : w.cell? ⟨b, 1, none⟩ = some (.int .i64 p)) (hf : w.frozen? ⟨b, 1, none⟩ = false)
    (hs : s.size ≤ 1000000000) (hp : p ≤ s.size) (hr : s.extract p s.size = r) (j : Nat) (hj : fd 10 10 r.data.toList = j) (hlt : j < r.size) (hok : okL h (r.extract 0 j) = true) :
    Calls Tryd.prog 56 #[.pointer (some ⟨b, 0, none⟩), .string h] w fun e w' => e = .returned (.tuple #[.string ((r.extract 0 j).extract h.size (r.extract 0 j).size), .bool true]) ∧ OnlyAt ⟨b, 1, none⟩ w w' ∧ w'.cell? ⟨b, 1, none⟩ = some (.int .i64 ((p + (j + 1) : Nat) : Int)) := by
  have hrz : r.size = s.size - p := by rw [← hr, ByteArray.size_extract]; omega
  have hlz : (r.extract 0 j).size = j := by rw [ByteArray.size_extract]; omega
  have HREST := hide (rest_ok b 0 s p w hc0 hc1 (by omega) hp)
  rw [hr] at HREST
  have HCUT := hide (fun w => cut10_yes r w (by omega) j hj hlt)
  have hlz2 : (r.extract 0 j).size ≤ 1000000000 := by omega
  have hjl : (r.extract 0 j).size ≤ j := by omega
  have hjl2 : j ≤ (r.extract 0 j).size := by omega
  obtain ⟨k1, k2, k3⟩ := okL_parts hok
  clear hok
  generalize r.extract 0 j = l at *
  have HP := hide (fun w => cutP_yes l h w (by omega) k1 k2)
  have HD := hide (fun w => impl_DigestOk (l.extract h.size l.size) w (by rw [ByteArray.size_extract]; omega))
  rw [k3] at HD
  obtain ⟨d, hd⟩ : ∃ d, l.extract h.size l.size = d := ⟨_, rfl⟩
  rw [hd] at HP HD
  rw [hd]
  have HTK := hide (fun kk => take_ok b 0 s p ((l.size : Int) + 1) (w.drewN kk) hc0 hc1 hf (by omega) hp (by omega) (by omega))
  clear hr hj k1 k2 k3 hd hc0 hc1 hf hlz
  go_enter Tryd.func56, Tryd.ntmps56
  go_wp2_with fail
  refine (unhide HREST).mono ?_
  rintro e w1 ⟨rfl, k1, rfl⟩
  go_wp2_with fail
  refine (unhide HCUT _).mono ?_
  rintro e w2 ⟨rfl, k2, rfl⟩
  go_wp2_with fail
  refine (unhide HP _).mono ?_
  rintro e w3 ⟨rfl, rfl⟩
  go_wp2_with fail
  refine (unhide HD _).mono ?_
  rintro e w3 ⟨rfl, rfl⟩
  go_wp2_with fail
  refine (unhide HTK _).mono ?_
  rintro e w4 ⟨rfl, ho4, hq4⟩
  have hL : ((p : Int) + ((l.size : Int) + 1)) = ((p + (j + 1) : Nat) : Int) := by omega
  rw [hL] at hq4
  have HO4 := hide ho4
  have HQ4 := hide hq4
  clear ho4 hq4 hL
  go_wp2_with fail
  go_ret2
  exact ⟨rfl, by simpa using ((OnlyAt.refl ⟨b, 1, none⟩ w).drewN (k1 + k2)).trans (unhide HO4), by simpa using unhide HQ4⟩

set_option maxHeartbeats 2000000 in
theorem line_no (b : Nat) (s h r : ByteArray) (p : Nat) (w : World) (hc0 : w.cell? ⟨b, 0, none⟩ = some (.string s)) (hc1 : w.cell? ⟨b, 1, none⟩ = some (.int .i64 p)) (hz : h.size ≤ 100)
    (hs : s.size ≤ 1000000000) (hp : p ≤ s.size) (hr : s.extract p s.size = r) (j : Nat) (hj : fd 10 10 r.data.toList = j) (hno : r.size ≤ j ∨ j < r.size ∧ okL h (r.extract 0 j) = false) :
    Calls Tryd.prog 56 #[.pointer (some ⟨b, 0, none⟩), .string h] w fun e w' => e = .returned (.tuple #[.string ⟨#[]⟩, .bool false]) ∧ ∃ k, w' = w.drewN k := by
  have hrz : r.size = s.size - p := by rw [← hr, ByteArray.size_extract]; omega
  have HREST := hide (rest_ok b 0 s p w hc0 hc1 (by omega) hp)
  rw [hr] at HREST
  have HY := hide (fun l w (h1 : l.size ≤ 1000000000) => cutP_yes l h w (by omega))
  have HN := hide (fun l w (h1 : l.size ≤ 1000000000) => cutP_no l h w (by omega) hz)
  rcases hno with hno | ⟨hlt, hno⟩
  · have HCUT := hide (fun w => cut10_no r w (by omega) (by omega))
    have hcase : (r.size < h.size ∨ h.size ≤ r.size ∧ ((r.extract 0 h.size).toList == h.toList) = false) ∨ (h.size ≤ r.size ∧ ((r.extract 0 h.size).toList == h.toList) = true) := by
      by_cases h1 : h.size ≤ r.size
      · cases h2 : ((r.extract 0 h.size).toList == h.toList) with
        | false => exact .inl (.inr ⟨h1, rfl⟩)
        | true => exact .inr ⟨h1, rfl⟩
      · exact .inl (.inl (by omega))
    rcases hcase with hc | ⟨hc, hd⟩
    · have HP := hide (fun w => unhide HN r w (by omega) hc)
      clear hr hj hc hc0 hc1 hno HY HN
      go_enter Tryd.func56, Tryd.ntmps56
      go_wp2_with fail
      refine (unhide HREST).mono ?_
      rintro e w1 ⟨rfl, k1, rfl⟩
      go_wp2_with fail
      refine (unhide HCUT _).mono ?_
      rintro e w2 ⟨rfl, k2, rfl⟩
      go_wp2_with fail
      refine (unhide HP _).mono ?_
      rintro e w3 ⟨rfl, rfl⟩
      go_wp2_with fail
      go_ret2
      exact ⟨rfl, k1 + k2, by simp⟩
    · have HP := hide (fun w => unhide HY r w (by omega) hc hd)
      obtain ⟨d, hdd⟩ : ∃ d, r.extract h.size r.size = d := ⟨_, rfl⟩
      rw [hdd] at HP
      clear hr hj hc hd hc0 hc1 hno HY HN hdd
      go_enter Tryd.func56, Tryd.ntmps56
      go_wp2_with fail
      refine (unhide HREST).mono ?_
      rintro e w1 ⟨rfl, k1, rfl⟩
      go_wp2_with fail
      refine (unhide HCUT _).mono ?_
      rintro e w2 ⟨rfl, k2, rfl⟩
      go_wp2_with fail
      refine (unhide HP _).mono ?_
      rintro e w3 ⟨rfl, rfl⟩
      go_wp2_with fail
      go_ret2
      exact ⟨rfl, k1 + k2, by simp⟩
  · have HCUT := hide (fun w => cut10_yes r w (by omega) j hj hlt)
    have hlz : (r.extract 0 j).size ≤ 1000000000 := by rw [ByteArray.size_extract]; omega
    generalize r.extract 0 j = l at *
    rcases okL_not hno with hc | ⟨hc, hd, hx⟩
    · have HP := hide (fun w => unhide HN l w hlz hc)
      clear hr hj hc hc0 hc1 hno HY HN
      go_enter Tryd.func56, Tryd.ntmps56
      go_wp2_with fail
      refine (unhide HREST).mono ?_
      rintro e w1 ⟨rfl, k1, rfl⟩
      go_wp2_with fail
      refine (unhide HCUT _).mono ?_
      rintro e w2 ⟨rfl, k2, rfl⟩
      go_wp2_with fail
      refine (unhide HP _).mono ?_
      rintro e w3 ⟨rfl, rfl⟩
      go_wp2_with fail
      go_ret2
      exact ⟨rfl, k1 + k2, by simp⟩
    · have HP := hide (fun w => unhide HY l w hlz hc hd)
      have HD := hide (fun w => impl_DigestOk (l.extract h.size l.size) w (by rw [ByteArray.size_extract]; omega))
      rw [hx] at HD
      obtain ⟨d, hdd⟩ : ∃ d, l.extract h.size l.size = d := ⟨_, rfl⟩
      rw [hdd] at HP HD
      clear hr hj hc hd hx hc0 hc1 hno HY HN hdd
      go_enter Tryd.func56, Tryd.ntmps56
      go_wp2_with fail
      refine (unhide HREST).mono ?_
      rintro e w1 ⟨rfl, k1, rfl⟩
      go_wp2_with fail
      refine (unhide HCUT _).mono ?_
      rintro e w2 ⟨rfl, k2, rfl⟩
      go_wp2_with fail
      refine (unhide HP _).mono ?_
      rintro e w3 ⟨rfl, rfl⟩
      go_wp2_with fail
      refine (unhide HD _).mono ?_
      rintro e w4 ⟨rfl, rfl⟩
      go_wp2_with fail
      go_ret2
      exact ⟨rfl, k1 + k2, by simp⟩
end Go.Proofs.YtnkjdojpegmlcaaDoor
