/- Texts of one kind, put together. -/
import Derived.Test.YtjiclgcohpkkjaaGreatDoorGzAQ
import Derived.Test.YtjiclgcohpkkjaaGreatDoorGzAK
import Derived.Test.YtjiclgcohpkkjaaGreatDoorGzAC

/- The rows of a message's entries, as the program reads them. -/
namespace Go.Proofs.YtjiclgcohpkkjaaGreatDoor
open Go.RowKit Plain
set_option linter.unusedVariables false

namespace Plain
/-- Entries of which so many are read, and how many are left. -/
def RowsR (s : ByteArray) (q : Nat) (N : Nat) (k : Nat) (es : List Ent) (p : Nat) (f : Bool) : Prop := (f = true ∧ rawEs s N q = none) ∨ (f = false ∧ rawEs s N q = (rawEs s k p).map fun x => (es ++ x.1, x.2))
theorem RowsR.start (s : ByteArray) (q N : Nat) : RowsR s q N N [] q false := .inr ⟨rfl, by cases rawEs s N q <;> simp⟩
theorem RowsR.next {s : ByteArray} {q N k : Nat} {es : List Ent} {p p' : Nat} {f' : Bool} {e : Ent} (h : RowsR s q N (k + 1) es p false) (m : MoR (oneE s p) p' false f' e) : RowsR s q N k (es ++ [e]) p' f' := by
  rcases h with ⟨h, _⟩ | ⟨_, h⟩
  · cases h
  · rw [rawEs_one] at h
    rcases m with ⟨rfl, hm | hm⟩ | ⟨rfl, _, hm⟩
    · cases hm
    · rw [hm] at h; exact .inl ⟨rfl, h⟩
    · rw [hm] at h
      refine .inr ⟨rfl, h.trans ?_⟩
      simp only []
      cases rawEs s k p' with
      | none => rfl
      | some x => simp
/-- What reading rows leaves. -/
def RowsPost (s : ByteArray) (p : Nat) (f : Bool) (R : Nat) (w : World) (e : Ending) (w' : World) : Prop := ∃ (p' : Nat) (f' : Bool) (v : Value) (es : List Ent), e = .returned v ∧ p' ≤ s.size ∧ RS w' R s p' f' ∧ OwnR entE w' w.heap.size v es ∧ (es.length ≤ 1048578 ∧ (f' = false → es.length ≤ s.size)) ∧ smallE es ∧ ((f' = true ∧ (f = true ∨ stp s p = none ∨ ∃ N q, stp s p = some (N, q) ∧ rawEs s N.toNat q = none)) ∨ (f' = false ∧ f = false ∧ ∃ N q, stp s p = some (N, q) ∧ rawEs s N.toNat q = some (es, p'))) ∧ Tch R [] w w'
theorem ownTch {α : Type} {e : Elem α} {W w' : World} {B R : Nat} {qs : List (Nat × Nat)} {v : Value} {xs : List α} (h : OwnR e W B v xs) (ht : Tch R qs W w') (hR : R < B) (hq : ∀ q ∈ qs, ∀ g, v.ownBlock = some g → q.1 ≠ g) : OwnR e w' B v xs := by
  have hlt := h.lt
  refine ⟨h.1, ?_⟩
  rcases h.2 with ⟨a, c⟩ | ⟨g, cap, cur, rfl, c, d, r⟩
  · exact .inl ⟨a, c⟩
  · exact .inr ⟨g, cap, cur, rfl, c, (ht.block g (hlt g rfl) (by omega) (fun q hx => hq q hx g rfl)).trans d, r⟩
theorem ownSet {α : Type} {e : Elem α} {W : World} {B b i : Nat} {v u : Value} {xs : List α} (h : OwnR e W B v xs) (hb : b < B) : OwnR e (W.setCell ⟨b, i, none⟩ u) B v xs := by
  have hlt := h.lt
  have ho := OnlyAt.setCell ⟨b, i, none⟩ W u
  refine ⟨h.1, ?_⟩
  rcases h.2 with ⟨a, c⟩ | ⟨g, cap, cur, rfl, c, d, r⟩
  · exact .inl ⟨a, c⟩
  · exact .inr ⟨g, cap, cur, rfl, c, (ho.block g (hlt g rfl) (by simp; omega)).trans d, r⟩
theorem Tch.past {w w6 w7 : World} {R K : Nat} {v : Value} (h : Tch R [] w w6) (hb : Below K w6 w7) (hK : w.heap.size ≤ K) (hR : R < w.heap.size) : Tch R [] w (w7.setCell ⟨w.heap.size, 0, none⟩ v) :=
  have ho := OnlyAt.setCell ⟨w.heap.size, 0, none⟩ w7 v
  have hs := hb.size
  have h1 := h.size
  ⟨ho.os.trans (hb.os.trans h.os), ho.tape.trans (hb.tape.trans h.tape), ho.output.trans (hb.output.trans h.output), Nat.le_trans h1 (Nat.le_trans hs ho.size),
   fun k hk hkR hq => (ho.block k (by omega) (by simp; omega)).trans ((hb.block k (by omega)).trans (h.block k hk hkR hq)),
   fun b o hb' hbR hq => (ho.cell ⟨b, o, none⟩ (show b < w7.heap.size by omega) (fun e => by have := congrArg Addr.block e; simp at this; omega)).trans ((hb.cell (p := ⟨b, o, none⟩) (show b < K by omega)).trans (h.cell b o hb' hbR hq)),
   fun q hq => (ho.frozen q (by omega)).trans ((hb.frozen (p := q) (by omega)).trans (h.frozen q hq))⟩
/-- How many are left to be read. -/
def cntAt (W : World) (C : Nat) : Nat := match W.cell? ⟨C, 0, none⟩ with
  | some (.int _ k) => k.toNat
  | _ => 0
theorem RS.keepB {w w' : World} {R K : Nat} {s : ByteArray} {p : Nat} {f : Bool} (h : RS w R s p f) (hb : Below K w w') (hR : R < K) : RS w' R s p f :=
  ⟨bclG hb hR h.t0, bclG hb hR h.t1, bclG hb hR h.t2, (hb.frozen (p := ⟨R, 1, none⟩) hR).trans h.z1, (hb.frozen (p := ⟨R, 2, none⟩) hR).trans h.z2⟩
/-- While rows are read. -/
structure RL (w : World) (R : Nat) (s : ByteArray) (f0 : Bool) (q N k : Nat) (es : List Ent) (p : Nat) (f : Bool) (v : Value) (W : World) : Prop where
  cnt : W.cell? ⟨w.heap.size, 0, none⟩ = some (.int .i64 k)
  cz : W.frozen? ⟨w.heap.size, 0, none⟩ = false
  rs : RS W R s p f
  own : OwnR entE W (w.heap.size + 2) v es
  rows : (f0 = true ∧ f = true) ∨ (f0 = false ∧ RowsR s q N k es p f)
  small : smallE es
  few : es.length ≤ s.size + 1
  few2 : f = false → es.length ≤ p
  tch : Tch R [] w W
  size : w.heap.size + 2 ≤ W.heap.size
theorem RL.fin {w W : World} {R : Nat} {s : ByteArray} {f f0 f' : Bool} {p p1 N k p' : Nat} {es : List Ent} {v : Value} (h : RL w R s f0 p1 N k es p' f' v W) (hm : MoR (stp s p) p1 f f0 (N : Int)) (hp : p' ≤ s.size) (hs : s.size ≤ 1048576) (hk : f' = true ∨ k = 0) : RowsPost s p f R w (.returned v) W := by
  refine ⟨p', f', v, es, rfl, hp, h.rs, h.own.le (by omega), ⟨by have := h.few; omega, fun hf => Nat.le_trans (h.few2 hf) hp⟩, h.small, ?_, h.tch⟩
  rcases h.rows with ⟨h0, h1⟩ | ⟨h0, h1⟩
  · subst h0 h1
    rcases hm with ⟨_, hm⟩ | ⟨hm, _⟩
    · exact .inl ⟨rfl, hm.imp id (fun h => .inl h)⟩
    · cases hm
  · subst h0
    rcases hm with ⟨hm, _⟩ | ⟨_, hf, hm⟩
    · cases hm
    · rcases h1 with ⟨rfl, h1⟩ | ⟨rfl, h1⟩
      · exact .inl ⟨rfl, .inr (.inr ⟨N, p1, hm, h1⟩)⟩
      · obtain rfl : k = 0 := hk.resolve_left (by simp)
        refine .inr ⟨rfl, hf, N, p1, hm, h1.trans ?_⟩
        simp [rawEs]
end Plain

set_option maxRecDepth 10000 in
set_option maxHeartbeats 4000000 in
theorem takeRows_calls (R : Nat) (s : ByteArray) (p : Nat) (f : Bool) (w : World) (h : RS w R s p f) (hp : p ≤ s.size) (hs : s.size ≤ 1048576) :
    Calls Tryz.prog 25 #[.pointer (some ⟨R, 0, none⟩), .func (.func 26) #[.pointer (some ⟨R, 0, none⟩)] #[]] w (RowsPost s p f R w) := by
  have hRl : R < w.heap.size := lt_of_cell h.t0
  obtain ⟨W1, hW1⟩ : ∃ W1, W1 = (w.alloc (.cells #[.int .i64 0] 2)).alloc (.cells #[.pointer (some ⟨w.heap.size, 0, none⟩)] 59) := ⟨_, rfl⟩
  have hb1 : Below w.heap.size w W1 := by rw [hW1]; exact belOn (bel1 _ _) (bel1 _ _)
  have hz1 : W1.heap.size = w.heap.size + 2 := by rw [hW1]; simp
  have t0 : W1.cell? ⟨w.heap.size, 0, none⟩ = some (.int .i64 0) := by rw [hW1]; simp [go_sem]
  have y0 : W1.frozen? ⟨w.heap.size, 0, none⟩ = false := by rw [hW1]; simp [go_sem]
  have q0 : W1.cell? ⟨w.heap.size + 1, 0, none⟩ = some (.pointer (some ⟨w.heap.size, 0, none⟩)) := by rw [hW1]; simp [go_sem]
  have HNU := hide (numbersG_calls R (w.heap.size + 1) 1 s p f [(w.heap.size, 0)] [0] W1 (h.keep hb1) hp (by omega) (fun j hj => by
      obtain rfl : j = 0 := by simp at hj; omega
      exact q0) ⟨rfl, fun j hj h2 => by
      obtain rfl : j = 0 := by simp at hj; omega
      exact ⟨t0, y0⟩⟩ rfl (by omega) (by simp) (by omega) (by omega) (fun q hq => by simp at hq; subst hq; simp; omega) (fun q hq => by simp at hq; subst hq; simp))
  have HB1 := hide hb1
  have HW1 := hide hW1.symm
  clear h hb1 hW1 t0 y0 q0
  go_enter Tryz.func25, Tryz.ntmps25
  go_wp2_with fail
  rw [unhide HW1]
  refine (unhide HNU).mono ?_
  unfold GotPost
  rintro e w2 ⟨p1, f0, vs, rfl, hp1, hR2, hT2, hch, hsm, ht2⟩
  obtain ⟨n0, rfl⟩ : ∃ n, vs = [n] := by
    have hl := hT2.1
    match vs, hl with
    | [n], _ => exact ⟨n, rfl⟩
  obtain ⟨x0c, x0z⟩ := hT2.2 0 (by simp) (by simp)
  obtain ⟨hn0, hn1⟩ := hsm n0 (by simp)
  obtain ⟨N, rfl⟩ := Int.eq_ofNat_of_zero_le hn0
  have hN : N ≤ 1000000000000 := by omega
  obtain ⟨_, _, hmo, rfl, rfl⟩ := hch
  have HMO := hide hmo
  have hs2 := ht2.size
  have HTC := hide (show Tch R [] w w2 from ⟨ht2.os.trans (unhide HB1).os, ht2.tape.trans (unhide HB1).tape, ht2.output.trans (unhide HB1).output, by omega,
    fun k hk hkR _ => (ht2.block k (by omega) hkR (fun q hq => by simp at hq; subst hq; simp; omega)).trans ((unhide HB1).block k hk),
    fun b o hb hbR _ => (ht2.cell b o (by omega) hbR (fun hq => by simp at hq; omega)).trans ((unhide HB1).cell (p := ⟨b, o, none⟩) hb),
    fun q hq => (ht2.frozen q (by omega)).trans ((unhide HB1).frozen (p := q) hq)⟩)
  have HR0 : (f0 = true ∧ f0 = true) ∨ (f0 = false ∧ RowsR s p1 N N [] p1 f0) := by
    cases f0
    · exact .inr ⟨rfl, RowsR.start s p1 N⟩
    · exact .inl ⟨rfl, rfl⟩
  have HRL := hide (show RL w R s f0 p1 N N [] p1 f0 (.slice none 0 0) w2 from
    ⟨x0c, x0z, hR2, ownR_nil _ _ _, HR0, (fun e he => by cases he), Nat.zero_le _, (fun _ => Nat.zero_le _), unhide HTC, by omega⟩)
  clear HR0 hT2 hsm hmo ht2 hR2 HNU x0c x0z hn0 hn1 HTC
  go_wp2_with fail
  go_loopw [6] (fun s6 wr => ∃ (k p' : Nat) (f' : Bool) (es : List Ent), k ≤ N ∧ p' ≤ s.size ∧ Hid (RL w R s f0 p1 N k es p' f' s6 wr)) (fun _ wr => cntAt wr w.heap.size)
  case atStart => exact ⟨N, p1, f0, [], Nat.le_refl _, hp1, HRL⟩
  case round =>
    clear HRL
    obtain ⟨k, p', f', es, hk, hp', HRL⟩ := hrel
    have hcnt : cntAt wr w.heap.size = k := by unfold cntAt; rw [(unhide HRL).cnt]; simp
    have c0 := (unhide HRL).cnt
    have cz := (unhide HRL).cz
    have r2 := (unhide HRL).rs.t2
    obtain ⟨av, cv, hv⟩ := (unhide HRL).own.form
    subst hv
    obtain ⟨l, hl⟩ : ∃ l, es.length = l := ⟨_, rfl⟩
    rw [hl] at HRL ⊢
    cases f' with
    | true =>
      by_cases hk0 : 0 < k
      all_goals
        go_wp2_with fail
        go_ret
        exact (unhide HRL).fin (unhide HMO) hp' hs (.inl rfl)
    | false =>
      by_cases hk0 : 0 < k
      · have i0 : (0 : Int) < (k : Int) := by omega
        obtain ⟨W5, hW5⟩ : ∃ W5, W5 = wr.alloc (.cells #[.int .i64 0, .int .i64 0, .string ⟨#[]⟩] 51) := ⟨_, rfl⟩
        have hb5 : Below wr.heap.size wr W5 := by rw [hW5]; exact bel1 _ _
        have hz5 : W5.heap.size = wr.heap.size + 1 := by rw [hW5]; simp
        have hzr := (unhide HRL).size
        have HEB := hide (show EB W5 wr.heap.size ⟨0, 0, ⟨#[]⟩⟩ from ⟨by rw [hW5]; simp [go_sem], by rw [hW5]; simp [go_sem], by rw [hW5]; simp [go_sem], by rw [hW5]; simp [go_sem], by rw [hW5]; simp [go_sem], by rw [hW5]; simp [go_sem]⟩)
        have HEN := hide (entry_calls R wr.heap.size s p' false ⟨0, 0, ⟨#[]⟩⟩ W5 ((unhide HRL).rs.keep hb5) hp' hs (unhide HEB) (by omega) (by show (⟨#[]⟩ : ByteArray).size ≤ 20000; decide))
        have HB5 := hide hb5
        have HW5 := hide hW5.symm
        have hfw := (unhide HRL).few2 rfl
        rw [hl] at hfw
        clear hW5 hb5
        go_wp2_with fail
        rw [unhide HW5]
        refine (unhide HEN).mono ?_
        unfold EntPost
        rintro e w6 ⟨p6, f6, x6, rfl, hp6, hpr6, hR6, hE6, hm6, hx6, ht6⟩
        obtain ⟨x1, x2, x3⟩ := x6
        have hs6 := ht6.size
        have HO6 := hide (ownTch ((unhide HRL).own.keep (unhide HB5)) ht6 (by omega) (fun q hq g hg => by
          have hlt := (unhide HRL).own.lt g hg
          simp at hq
          rcases hq with rfl | rfl | rfl <;> (simp; omega)))
        have c6 := (ht6.cell w.heap.size 0 (by omega) (by omega) (fun hq => by simp at hq; omega)).trans (bclG (unhide HB5) (by omega) c0)
        have cz6 := (ht6.frozen ⟨w.heap.size, 0, none⟩ (show w.heap.size < W5.heap.size by omega)).trans (((unhide HB5).frozen (p := ⟨w.heap.size, 0, none⟩) (show w.heap.size < wr.heap.size by omega)).trans cz)
        obtain ⟨g0, g1, g2, -, -, -⟩ := hE6
        simp only [] at g0 g1 g2 hx6
        have HR6 := hide hR6
        have HM6 := hide hm6
        have HT6 := hide (show Tch R [] w w6 from ⟨ht6.os.trans ((unhide HB5).os.trans (unhide HRL).tch.os), ht6.tape.trans ((unhide HB5).tape.trans (unhide HRL).tch.tape), ht6.output.trans ((unhide HB5).output.trans (unhide HRL).tch.output), by omega,
          fun k hk hkR hkq => (ht6.block k (by omega) hkR (fun q hq => by simp at hq; rcases hq with rfl | rfl | rfl <;> (simp; omega))).trans (((unhide HB5).block k (by omega)).trans ((unhide HRL).tch.block k hk hkR hkq)),
          fun b o hb hbR hbq => (ht6.cell b o (by omega) hbR (fun hq => by simp at hq; omega)).trans (((unhide HB5).cell (p := ⟨b, o, none⟩) (show b < wr.heap.size by omega)).trans ((unhide HRL).tch.cell b o hb hbR hbq)),
          fun q hq => (ht6.frozen q (by omega)).trans (((unhide HB5).frozen (p := q) (by omega)).trans ((unhide HRL).tch.frozen q hq))⟩)
        have hlen : es.length < 100000000 := by omega
        have hz6 : w.heap.size + 2 ≤ w6.heap.size := by omega
        have hk1 : (k : Int) ≤ 1000000000000 := by omega
        clear hR6 hm6 ht6 c0 cz r2
        go_wp2_with (at_builtin; go_must (refine appR (e := entE) rfl _ _ rfl (unhide HO6) rfl ⟨x1, x2, x3⟩ rfl _ rfl rfl hlen hz6 ?_); intro v' w7 hown7 hb7 hg7; obtain ⟨a7, c7, hv'⟩ := hown7.form; rw [show (es ++ [(⟨x1, x2, x3⟩ : Ent)]).length = l + 1 from by rw [List.length_append, hl]; rfl] at hv'; subst hv'; have c7 := bclG hb7 (show w.heap.size < w.heap.size + 2 by omega) c6; have cz7 := (hb7.frozen (p := ⟨w.heap.size, 0, none⟩) (show w.heap.size < w.heap.size + 2 by omega)).trans cz6)
        have hs7 := hb7.size
        go_roundw
        case rel =>
          refine ⟨k - 1, p6, f6, es ++ [⟨x1, x2, x3⟩], by omega, hp6, hide ⟨?_, ?_, ?_, ?_, ?_, ?_, ?_, ?_, ?_, ?_⟩⟩
          · have := World.cell?_setCell_same w7 ⟨w.heap.size, 0, none⟩ (.int .i64 ((k : Int) - 1)) c7
            rw [this]
            go_num
          · exact (World.frozen?_setCell _ _ _ _).trans cz7
          · exact RS.off ((unhide HR6).keepB hb7 (by omega)) (by omega) _
          · exact ownSet hown7 (by omega)
          · rcases (unhide HRL).rows with ⟨_, q1⟩ | ⟨q1, q2⟩
            · cases q1
            · refine .inr ⟨q1, ?_⟩
              rw [show k = (k - 1) + 1 from by omega] at q2
              exact q2.next (unhide HM6)
          · intro y hy
            rcases List.mem_append.1 hy with hy | hy
            · exact (unhide HRL).small y hy
            · rw [List.mem_singleton.1 hy]; show x3.size ≤ _; omega
          · rw [List.length_append, hl]; simp; omega
          · intro hf6
            have := hpr6 hf6
            rw [List.length_append, hl]; simp; omega
          · exact (unhide HT6).past hb7 (by omega) (by omega)
          · simp; omega
        case measure =>
          have := World.cell?_setCell_same w7 ⟨w.heap.size, 0, none⟩ (.int .i64 ((k : Int) - 1)) c7
          rw [hcnt]
          unfold cntAt
          rw [this]
          simp
          omega
      · obtain rfl : k = 0 := by omega
        go_wp2_with fail
        go_ret
        exact (unhide HRL).fin (unhide HMO) hp' hs (.inr rfl)
end Go.Proofs.YtjiclgcohpkkjaaGreatDoor


/- Members read out of texts: the mathematics. -/
namespace Go.Proofs.YtjiclgcohpkkjaaGreatDoor.Plain
open Go
set_option linter.unusedVariables false

def no32 (h : List UInt8) : Prop := ∀ x ∈ h, x.toNat ≠ 32
theorem dec_no32 : ∀ n : Nat, no32 (Lib.decDigits n) := by
  intro n
  induction n using Nat.strongRecOn with
  | _ n ih =>
    rw [Lib.decDigits]
    have hd : ∀ k : Nat, (UInt8.ofNat (48 + k % 10)).toNat ≠ 32 := fun k => by simp; omega
    have hd2 : ∀ k : Nat, k < 10 → (UInt8.ofNat (48 + k)).toNat ≠ 32 := fun k hk => by simp; omega
    split
    · intro x hx
      simp only [List.mem_singleton] at hx
      subst hx
      exact hd2 _ (by assumption)
    · intro x hx
      rw [List.mem_append] at hx
      rcases hx with hx | hx
      · exact ih (n / 10) (by omega) x hx
      · simp only [List.mem_singleton] at hx
        subst hx
        exact hd _
/-- The words of numbers, and of what follows. -/
theorem splt_num (tl : List UInt8) (W : List (List UInt8)) (ht : ∀ h, no32 h → splt 32 (h ++ tl) = h :: W) (ls : List Int) : ∀ h, no32 h → splt 32 (h ++ (numL ls ++ tl)) = h :: (ls.map (fun n => Lib.decDigits n.toNat) ++ W) := by
  induction ls with
  | nil => intro h hh; simpa [numL] using ht h hh
  | cons a ls ih =>
    intro h hh
    have e : numL (a :: ls) ++ tl = 32 :: (Lib.decDigits a.toNat ++ (numL ls ++ tl)) := by simp [numL]
    rw [e, splt_at 32 h _ 32 (by decide) hh, ih _ (dec_no32 _)]
    simp
theorem splt_conf (v l : List Int) (h : confB v l = true) : splt 32 (confL v l) = [118] :: (v.map (fun n => Lib.decDigits n.toNat) ++ (if l.length = 0 then [] else [108] :: l.map (fun n => Lib.decDigits n.toNat))) := by
  unfold confL
  rw [if_pos h]
  by_cases hl : l.length = 0
  · rw [if_pos hl, if_pos hl]
    exact splt_num [] [] (fun h hh => by rw [List.append_nil]; exact splt_end 32 h hh) v [118] (by intro x hx; simp only [List.mem_singleton] at hx; subst hx; decide)
  · rw [if_neg hl, if_neg hl]
    refine splt_num (32 :: 108 :: numL l) ([108] :: l.map (fun n => Lib.decDigits n.toNat)) (fun h hh => ?_) v [118] (by intro x hx; simp only [List.mem_singleton] at hx; subst hx; decide)
    rw [splt_at 32 h _ 32 (by decide) hh]
    have := splt_num [] [] (fun h hh => by rw [List.append_nil]; exact splt_end 32 h hh) l [108] (by intro x hx; simp only [List.mem_singleton] at hx; subst hx; decide)
    rw [List.append_nil, List.append_nil] at this
    exact congrArg _ this
/-- What is read of words: a number by N; the word l turns to the learners, once. -/
def rdW (N : List UInt8 → Int) : List (List UInt8) → Bool → List Int → List Int → List Int × List Int
  | [], _, v, l => (v, l)
  | x :: r, d, v, l => if x = [108] ∧ d = false then rdW N r true v l else if d = true then rdW N r d v (l ++ [N x]) else rdW N r d (v ++ [N x]) l
theorem dec_not (a : Int) (h1 : 1 ≤ a) (h50 : a ≤ 50) : Lib.decDigits a.toNat ≠ [108] := by
  intro q
  have hd : ∀ n : Fin 51, Lib.decDigits n.val ≠ [108] := by
    intro n q
    rw [Lib.decDigits] at q
    split at q
    · have := congrArg (fun l => l.map UInt8.toNat) q
      simp at this
      omega
    · have := congrArg List.length q
      rw [Lib.decDigits, dif_pos (by omega)] at this
      simp at this
  exact hd ⟨a.toNat, by omega⟩ q
theorem rdW_l (N : List UInt8 → Int) (hN : ∀ a : Int, 1 ≤ a → a ≤ 50 → N (Lib.decDigits a.toNat) = a) (ls : List Int) : (∀ a ∈ ls, 1 ≤ a ∧ a ≤ 50) → ∀ v l, rdW N (ls.map (fun n => Lib.decDigits n.toNat)) true v l = (v, l ++ ls) := by
  induction ls with
  | nil => intro _ v l; simp [rdW]
  | cons a ls ih =>
    intro h v l
    have ha := h a (by simp)
    rw [List.map_cons, rdW, if_neg (by simp), if_pos rfl, ih (fun b hb => h b (by simp [hb])), hN a ha.1 ha.2]
    simp
theorem rdW_v (N : List UInt8 → Int) (hN : ∀ a : Int, 1 ≤ a → a ≤ 50 → N (Lib.decDigits a.toNat) = a) (r : List (List UInt8)) (ls : List Int) : (∀ a ∈ ls, 1 ≤ a ∧ a ≤ 50) → ∀ v l, rdW N (ls.map (fun n => Lib.decDigits n.toNat) ++ r) false v l = rdW N r false (v ++ ls) l := by
  induction ls with
  | nil => intro _ v l; simp
  | cons a ls ih =>
    intro h v l
    have ha := h a (by simp)
    rw [List.map_cons, List.cons_append, rdW, if_neg (fun q => dec_not a ha.1 ha.2 q.1), if_neg (by decide), ih (fun b hb => h b (by simp [hb])), hN a ha.1 ha.2]
    simp
/-- The text of right members reads as them. -/
theorem rdW_conf (N : List UInt8 → Int) (hN : ∀ a : Int, 1 ≤ a → a ≤ 50 → N (Lib.decDigits a.toNat) = a) (v l : List Int) (h : confB v l = true) : rdW N ((splt 32 (confL v l)).drop 1) false [] [] = (v, l) := by
  obtain ⟨h1, h2, -⟩ := confB_l h
  rw [splt_conf v l h, List.drop_succ_cons, List.drop_zero, rdW_v N hN _ v h1]
  by_cases hl : l.length = 0
  · rw [if_pos hl, List.length_eq_zero_iff.1 hl]
    simp [rdW]
  · rw [if_neg hl, rdW, if_pos ⟨rfl, rfl⟩, rdW_l N hN l h2]
    simp
/-- What ReadConf answers, by the bytes: members whose text is the text, or nothing. -/
def rdC (N : List UInt8 → Int) (t : List UInt8) : List Int × List Int × Bool :=
  if confL (rdW N ((splt 32 t).drop 1) false [] []).1 (rdW N ((splt 32 t).drop 1) false [] []).2 = t ∧ t ≠ [] then ((rdW N ((splt 32 t).drop 1) false [] []).1, (rdW N ((splt 32 t).drop 1) false [] []).2, true) else ([], [], false)
theorem confL_ok {v l : List Int} {t : List UInt8} (h : confL v l = t) (ht : t ≠ []) : confB v l = true := by
  cases hc : confB v l with
  | true => rfl
  | false =>
    unfold confL at h
    rw [if_neg (by rw [hc]; decide)] at h
    exact absurd h.symm ht
/-- Which reader of numbers it is does not matter. -/
theorem rdC_any (N M : List UInt8 → Int) (hN : ∀ a : Int, 1 ≤ a → a ≤ 50 → N (Lib.decDigits a.toNat) = a) (hM : ∀ a : Int, 1 ≤ a → a ≤ 50 → M (Lib.decDigits a.toNat) = a) (t : List UInt8) : rdC N t = rdC M t := by
  have one : ∀ (A B : List UInt8 → Int), (∀ a : Int, 1 ≤ a → a ≤ 50 → A (Lib.decDigits a.toNat) = a) → (∀ a : Int, 1 ≤ a → a ≤ 50 → B (Lib.decDigits a.toNat) = a) → confL (rdW A ((splt 32 t).drop 1) false [] []).1 (rdW A ((splt 32 t).drop 1) false [] []).2 = t ∧ t ≠ [] → rdW A ((splt 32 t).drop 1) false [] [] = rdW B ((splt 32 t).drop 1) false [] [] := by
    intro A B hA hB h
    obtain ⟨h1, h2⟩ := h
    have hc := confL_ok h1 h2
    have e1 := rdW_conf A hA _ _ hc
    have e2 := rdW_conf B hB _ _ hc
    rw [h1] at e1 e2
    rw [e1, e2]
  unfold rdC
  by_cases h : confL (rdW N ((splt 32 t).drop 1) false [] []).1 (rdW N ((splt 32 t).drop 1) false [] []).2 = t ∧ t ≠ []
  · have e := one N M hN hM h
    rw [e]
  · by_cases h2 : confL (rdW M ((splt 32 t).drop 1) false [] []).1 (rdW M ((splt 32 t).drop 1) false [] []).2 = t ∧ t ≠ []
    · have e := one M N hM hN h2
      rw [e]
    · rw [if_neg h, if_neg h2]
/-- A text of more than 200 bytes is none of right members. -/
theorem confL_len (v l : List Int) : (confL v l).length ≤ 200 := by
  unfold confL
  split
  · rename_i h
    obtain ⟨h1, h2, h3⟩ := confB_l h
    have n1 := numL_len v h1
    have n2 := numL_len l h2
    have hv : v.length ≤ 7 := by
      unfold confB at h
      simp only [Bool.and_eq_true, decide_eq_true_iff] at h
      exact h.2.2.1
    split <;> simp <;> omega
  · simp
end Go.Proofs.YtjiclgcohpkkjaaGreatDoor.Plain

