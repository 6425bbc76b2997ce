/- The program's WriteRequest. -/
import Derived.Test.YtjjdeffmciknjaaDoorMsgJ
import Derived.Test.YtjjdeffmciknjaaDoorReqK
namespace Go.Proofs.YtjjdeffmciknjaaDoor
open Go.RowKit Plain
set_option linter.unusedVariables false

namespace Plain
theorem texB_le {lo hi : Nat} {p : Nat → Bool} {s : ByteArray} (h : texB lo hi p s = true) : s.size ≤ hi := by
  unfold texB at h
  simp only [Bool.and_eq_true, decide_eq_true_eq] at h
  exact h.1.2
theorem fitB_facts {p : Hd → Bool} {ls : List Hd} (h : fitB p ls = true) : ls.length ≤ 20 ∧ ∀ x ∈ ls, p x = true := by
  unfold fitB at h
  simp only [Bool.and_eq_true, decide_eq_true_eq] at h
  exact ⟨h.1, fun x hx => List.all_eq_true.1 h.2 x hx⟩
theorem qrw_fit {ls : List Hd} (h : fitB qrwB ls = true) : ls.length ≤ 20 ∧ fitH ls := by
  obtain ⟨h1, h2⟩ := fitB_facts h
  refine ⟨h1, fun x hx => ?_⟩
  have h3 := h2 x hx
  unfold qrwB at h3
  rw [Bool.and_eq_true] at h3
  have := texB_le h3.1
  have := texB_le h3.2
  omega
theorem hrw_fit {ls : List Hd} (h : fitB hrwB ls = true) : ls.length ≤ 20 ∧ fitH ls := by
  obtain ⟨h1, h2⟩ := fitB_facts h
  refine ⟨h1, fun x hx => ?_⟩
  have h3 := h2 x hx
  unfold hrwB valB at h3
  simp only [Bool.and_eq_true] at h3
  have := texB_le h3.1.2
  have := texB_le h3.2.1
  omega
theorem tail_facts {hs : List Hd} {bd : ByteArray} (h : tailB hs bd = true) : hs.length ≤ 20 ∧ fitH hs ∧ bd.size ≤ 20000 := by
  unfold tailB at h
  simp only [Bool.and_eq_true, decide_eq_true_eq] at h
  exact ⟨(hrw_fit h.1).1, (hrw_fit h.1).2, h.2⟩
theorem req_facts {m p : ByteArray} {qs hs : List Hd} {bd : ByteArray} (h : reqB m p qs hs bd = true) : m.size ≤ 10 ∧ p.size ≤ 400 ∧ qs.length ≤ 20 ∧ fitH qs ∧ hs.length ≤ 20 ∧ fitH hs ∧ bd.size ≤ 20000 := by
  unfold reqB askB pathB at h
  simp only [Bool.and_eq_true] at h
  obtain ⟨⟨⟨h1, h2, _⟩, h3⟩, h4⟩ := h
  exact ⟨texB_le h1, texB_le h2, (qrw_fit h3).1, (qrw_fit h3).2, tail_facts h4⟩

def blT : ByteArray := ⟨#[32]⟩
def htT : ByteArray := ⟨#[72, 84, 84, 80, 47, 49, 46, 49]⟩
def eqT1 : ByteArray := ⟨#[61]⟩
def amT : ByteArray := ⟨#[38]⟩
def quT : ByteArray := ⟨#[63]⟩
/-- A path and what is asked. -/
def targT (p : ByteArray) (qs : List Hd) : ByteArray := if qs.length = 0 then p else p ++ (quT ++ joinT (qs.map (rowT eqT1)) amT)
def firstT (m p : ByteArray) (qs : List Hd) : ByteArray := m ++ blT ++ targT p qs ++ blT ++ htT
/-- A request's text. -/
def wrqT (m p : ByteArray) (qs hs : List Hd) (bd : ByteArray) : ByteArray := if reqB m p qs hs bd = true then msgT (firstT m p qs) hs bd else ⟨#[]⟩

theorem join_len (xs : List ByteArray) (sep : ByteArray) (n b : Nat) (h1 : 1 ≤ xs.length) (hn : xs.length ≤ n) (hb : ∀ x ∈ xs, x.size ≤ b) : (Lib.join (lsL xs) sep.data.toList).length ≤ sep.size * n + n * b := by
  match xs with
  | [] => simp at h1
  | x :: r =>
    have e1 : lsL (x :: r) = x.data.toList :: lsL r := rfl
    rw [e1, Lib.join_length, ← e1]
    have h2 := lens_le (x :: r) b hb
    have h3 : (lsL r).length ≤ n := by unfold lsL; rw [List.length_map]; simp at hn; omega
    have h4 : sep.data.toList.length = sep.size := by simp
    have h5 := Nat.mul_le_mul_left sep.size h3
    have h6 := Nat.mul_le_mul_right b hn
    rw [h4]
    omega
theorem join_size (xs : List ByteArray) (sep : ByteArray) (n b : Nat) (h1 : 1 ≤ xs.length) (hn : xs.length ≤ n) (hb : ∀ x ∈ xs, x.size ≤ b) : (joinT xs sep).size ≤ sep.size * n + n * b := by
  have := join_len xs sep n b h1 hn hb
  unfold joinT
  show ((Lib.join (lsL xs) sep.data.toList).toArray).size ≤ _
  rw [List.size_toArray]
  exact this
end Plain

set_option maxRecDepth 10000 in
set_option maxHeartbeats 4000000 in
theorem impl_WriteRequest (m p : ByteArray) (aq : Option Addr) (nq cq : Nat) (qs : List Hd) (ah : Option Addr) (nh ch : Nat) (hs : List Hd) (bd : ByteArray) (w : World) (h : ReqAt w m p aq nq qs ah nh hs bd) (hP : P10 w) :
    Calls Tryd.prog 12 #[.agg #[.string m, .string p, .slice aq nq cq, .slice ah nh ch, .string bd]] w fun e w' => e = .returned (.string (wrqT m p qs hs bd)) ∧ Below w.heap.size w w' := by
  obtain ⟨W0, hW0⟩ : ∃ W0, W0 = w.alloc (.cells #[.string m, .string p, .slice aq nq cq, .slice ah nh ch, .string bd] 29) := ⟨_, rfl⟩
  have hb0 : Below w.heap.size w W0 := by rw [hW0]; exact bel1 _ _
  have hlt : w.heap.size < W0.heap.size := by rw [hW0]; simp
  have c0 : W0.cell? ⟨w.heap.size, 0, none⟩ = some (.string m) := by rw [hW0]; simp [go_sem]
  have c1 : W0.cell? ⟨w.heap.size, 1, none⟩ = some (.string p) := by rw [hW0]; simp [go_sem]
  have c2 : W0.cell? ⟨w.heap.size, 2, none⟩ = some (.slice aq nq cq) := by rw [hW0]; simp [go_sem]
  have c3 : W0.cell? ⟨w.heap.size, 3, none⟩ = some (.slice ah nh ch) := by rw [hW0]; simp [go_sem]
  have c4 : W0.cell? ⟨w.heap.size, 4, none⟩ = some (.string bd) := by rw [hW0]; simp [go_sem]
  have hA := h.below hb0
  have HOK := hide (impl_RequestOk m p aq nq cq qs ah nh ch hs bd W0 hA)
  have HC := hide (fun (W : World) (hW : Below W0.heap.size W0 W) => And.intro (bcl hW hlt c0) (And.intro (bcl hW hlt c1) (And.intro (bcl hW hlt c2) (And.intro (bcl hW hlt c3) (bcl hW hlt c4)))))
  have HB := hide hb0
  have HW0 := hide hW0.symm
  have HE := hide (show wrqT m p qs hs bd = if reqB m p qs hs bd = true then msgT (firstT m p qs) hs bd else ⟨#[]⟩ from rfl)
  cases hB : reqB m p qs hs bd with
  | false =>
    rw [hB] at HOK
    rw [unhide HE, hB]
    clear h hA hb0 hlt c0 c1 c2 c3 c4 hW0 hP HE hB
    go_enter Tryd.func12, Tryd.ntmps12
    go_wp2_with fail
    rw [unhide HW0]
    refine (unhide HOK).mono ?_
    rintro e w1 ⟨rfl, hb1⟩
    have HB1 := hide (belOn (unhide HB) hb1)
    clear hb1
    go_wp2_with fail
    go_ret
    exact ⟨rfl, unhide HB1⟩
  | true =>
    obtain ⟨s1, s2, s3, s4, s5, s6, s7⟩ := req_facts hB
    rw [hB] at HOK
    rw [unhide HE, hB, if_pos rfl]
    have hlq := hA.lq
    have hlh := hA.lh
    have HMS := hide (fun (first : ByteArray) (hf : first.size ≤ 100000) (W : World) (hW : Below W0.heap.size W0 W) => message_calls first ah nh ch hs bd W hlh (by omega) s6 hf (by omega) ((hP.below hb0).below hW) (hA.rh.below hW))
    have HRW := hide (fun (W : World) (hW : Below W0.heap.size W0 W) => rows_calls aq nq cq qs eqT1 W hlq (by omega) (by decide) s4 (hA.rq.below hW))
    have HQL := hide (show (qs.map (rowT eqT1)).length = nq from by rw [List.length_map, hlq])
    have HQS := hide (row_size eqT1 (by decide) qs s4)
    clear h hb0 hlt c0 c1 c2 c3 c4 hW0 hP HE hB hA
    by_cases hq0 : nq = 0
    · have HT := hide (show firstT m p qs = m ++ blT ++ p ++ blT ++ htT from by unfold firstT targT; rw [if_pos (by omega)])
      rw [unhide HT]
      have a1 := fun W => addS (a := m) (b := blT) W (by have : blT.size = 1 := rfl; omega)
      have a2 := fun W => addS (a := m ++ blT) (b := p) W (by rw [ByteArray.size_append]; have : blT.size = 1 := rfl; omega)
      have a3 := fun W => addS (a := m ++ blT ++ p) (b := blT) W (by rw [ByteArray.size_append, ByteArray.size_append]; have : blT.size = 1 := rfl; omega)
      have a4 := fun W => addS (a := m ++ blT ++ p ++ blT) (b := htT) W (by rw [ByteArray.size_append, ByteArray.size_append, ByteArray.size_append]; have : blT.size = 1 := rfl; have : htT.size = 8 := rfl; omega)
      have HFS := hide (show (m ++ blT ++ p ++ blT ++ htT).size ≤ 100000 from by rw [ByteArray.size_append, ByteArray.size_append, ByteArray.size_append, ByteArray.size_append]; have : blT.size = 1 := rfl; have : htT.size = 8 := rfl; omega)
      have HMG := hide (fun W hW => unhide HMS _ (unhide HFS) W hW)
      generalize m ++ blT ++ p ++ blT ++ htT = f5 at a4 HMG ⊢
      generalize m ++ blT ++ p ++ blT = f4 at a3 a4
      generalize m ++ blT ++ p = f3 at a2 a3
      generalize m ++ blT = f2 at a1 a2
      unfold blT at a1 a3
      unfold htT at a4
      subst hq0
      clear HT HFS HMS s1 s2 s3 s5 s7 hlq hlh s4 s6
      go_enter Tryd.func12, Tryd.ntmps12
      go_wp2_with fail
      rw [unhide HW0]
      refine (unhide HOK).mono ?_
      rintro e w1 ⟨rfl, hb1⟩
      have HB1 := hide (belOn (unhide HB) hb1)
      obtain ⟨q0, q1, q2, q3, q4⟩ := unhide HC _ hb1
      have HM1 := hide (unhide HMG _ hb1)
      clear hb1
      go_wp2_with fail
      refine (unhide HM1).mono ?_
      rintro e w2 ⟨rfl, hb2⟩
      have HB2 := hide (belOn (unhide HB1) hb2)
      clear hb2
      go_wp2_with fail
      go_ret
      exact ⟨rfl, unhide HB2⟩
    · have hJS := join_size (qs.map (rowT eqT1)) amT 20 2010 (by rw [unhide HQL]; omega) (by rw [unhide HQL]; omega) (unhide HQS)
      have HJL := hide (join_len (qs.map (rowT eqT1)) amT 20 2010 (by rw [unhide HQL]; omega) (by rw [unhide HQL]; omega) (unhide HQS))
      have hJ2 : (joinT (qs.map (rowT eqT1)) amT).size ≤ 50000 := by have : amT.size = 1 := rfl; omega
      have HT := hide (show firstT m p qs = m ++ blT ++ (p ++ (quT ++ joinT (qs.map (rowT eqT1)) amT)) ++ blT ++ htT from by unfold firstT targT; rw [if_neg (by omega)])
      rw [unhide HT]
      have HJN := hide (fun (W : World) (g c : Nat) (hc : nq ≤ c) (hr : RowAt strE W (some ⟨g, 0, none⟩) (qs.map (rowT eqT1))) => join_any g nq c (qs.map (rowT eqT1)) amT W (unhide HQL) (by omega) (by omega) hc (by decide) (by decide) (fun x hx => by have := unhide HQS x hx; omega) (by omega) (by have := unhide HJL; have : amT.size = 1 := rfl; omega) hr)
      have hqne : qs.map (rowT eqT1) ≠ [] := by
        intro h
        have := unhide HQL
        rw [h] at this
        simp at this
        omega
      generalize hJ : joinT (qs.map (rowT eqT1)) amT = J at HJN hJ2 ⊢
      generalize qs.map (rowT eqT1) = rs at HRW HJN HQL HQS hqne
      have b1 := fun W => addS (a := quT) (b := J) W (by have : quT.size = 1 := rfl; omega)
      have b2 := fun W => addS (a := p) (b := quT ++ J) W (by rw [ByteArray.size_append]; have : quT.size = 1 := rfl; omega)
      have hts : (p ++ (quT ++ J)).size ≤ 60000 := by rw [ByteArray.size_append, ByteArray.size_append]; have : quT.size = 1 := rfl; omega
      generalize p ++ (quT ++ J) = tg at b2 hts ⊢
      generalize quT ++ J = j2 at b1 b2
      have a1 := fun W => addS (a := m) (b := blT) W (by have : blT.size = 1 := rfl; omega)
      have a2 := fun W => addS (a := m ++ blT) (b := tg) W (by rw [ByteArray.size_append]; have : blT.size = 1 := rfl; omega)
      have a3 := fun W => addS (a := m ++ blT ++ tg) (b := blT) W (by rw [ByteArray.size_append, ByteArray.size_append]; have : blT.size = 1 := rfl; omega)
      have a4 := fun W => addS (a := m ++ blT ++ tg ++ blT) (b := htT) W (by rw [ByteArray.size_append, ByteArray.size_append, ByteArray.size_append]; have : blT.size = 1 := rfl; have : htT.size = 8 := rfl; omega)
      have HFS := hide (show (m ++ blT ++ tg ++ blT ++ htT).size ≤ 100000 from by rw [ByteArray.size_append, ByteArray.size_append, ByteArray.size_append, ByteArray.size_append]; have : blT.size = 1 := rfl; have : htT.size = 8 := rfl; omega)
      have HMG := hide (fun W hW => unhide HMS _ (unhide HFS) W hW)
      generalize m ++ blT ++ tg ++ blT ++ htT = f5 at a4 HMG ⊢
      generalize m ++ blT ++ tg ++ blT = f4 at a3 a4
      generalize m ++ blT ++ tg = f3 at a2 a3
      generalize m ++ blT = f2 at a1 a2
      unfold blT at a1 a3
      unfold htT at a4
      unfold quT at b1
      have hqp : (0 : Int) < (nq : Int) := by omega
      have hqp2 : 0 < nq := by omega
      have HQN := hide hqne
      clear HT HFS HMS hJ hJS HJL hJ2 hts hqne hq0 s4 s6 HQS s7
      go_enter Tryd.func12, Tryd.ntmps12
      go_wp2_with fail
      rw [unhide HW0]
      refine (unhide HOK).mono ?_
      rintro e w1 ⟨rfl, hb1⟩
      have HX1 := hide hb1
      obtain ⟨q0, q1, q2, q3, q4⟩ := unhide HC _ hb1
      have HR1 := hide (unhide HRW _ hb1)
      clear hb1
      go_wp2_with fail
      refine (unhide HR1).mono ?_
      rintro e w2 ⟨v2, rfl, o2, hb2⟩
      obtain ⟨a2, c2, hv2⟩ := o2.form
      rw [unhide HQL] at hv2
      subst hv2
      obtain ⟨g2, hg2, hc2⟩ := own_cap o2 (unhide HQN)
      subst hg2
      have HX2 := hide (belOn (unhide HX1) hb2)
      have HJ2 := hide (unhide HJN w2 g2 c2 hc2 o2.at)
      clear hb2 o2 HR1
      go_wp2_with fail
      refine (unhide HJ2).mono ?_
      rintro e w3 ⟨rfl, hb3⟩
      have hX3 := belOn (unhide HX2) hb3
      obtain ⟨r0, r1, r2, r3, r4⟩ := unhide HC _ hX3
      have HM1 := hide (unhide HMG _ hX3)
      have HX3 := hide hX3
      clear hb3 hX3 q0 q1 q2 q3 q4 HJ2
      go_wp2_with fail
      refine (unhide HM1).mono ?_
      rintro e w4 ⟨rfl, hb4⟩
      have HB4 := hide (belOn (unhide HB) (belOn (unhide HX3) hb4))
      clear hb4
      go_wp2_with fail
      go_ret
      exact ⟨rfl, unhide HB4⟩
end Go.Proofs.YtjjdeffmciknjaaDoor
