/- AddTo by the specification. -/
import Derived.Test.YtnokbnoncdebmaaKyU
import Derived.Test.YtnokbnoncdebmaaSetS
namespace Go.Proofs.Ytnokbnoncdebmaa
open Go.RowKit Go.Maps Plain
set_option linter.unusedVariables false

theorem Plain.StrsAt.onlyRowK {w w' : World} {a b : Option Addr} {ls : List ByteArray} (h : StrsAt w a ls) (ho : OnlyRow b w w') (hne : ∀ g o, a = some ⟨g, o, none⟩ → ∀ o', b ≠ some ⟨g, o', none⟩) : StrsAt w' a ls := fun i hi => by
  obtain ⟨g, o, e, hl, hc⟩ := h i hi
  exact ⟨g, o, e, Nat.lt_of_lt_of_le hl ho.size, (ho.cell hl (hne g o e)).trans hc⟩
theorem RowAt.onlyRowK {w w' : World} {a b : Option Addr} {ls : List ByteArray} (h : RowAt strE w a ls) (ho : OnlyRow b w w') (hne : ∀ g o, a = some ⟨g, o, none⟩ → ∀ o', b ≠ some ⟨g, o', none⟩) : RowAt strE w' a ls := by
  apply RowAt.ofS
  intro i hi
  obtain ⟨g, e, hl, hc, hf⟩ := h.str i hi
  exact ⟨g, e, Nat.lt_of_lt_of_le hl ho.size, (ho.cell hl (hne g 0 e)).trans hc, (ho.frozen hl (hne g 0 e)).trans hf⟩
theorem OwnR.blkK {w : World} {B n c : Nat} {a : Option Addr} {ls : List ByteArray} (h : OwnR strE w B (.slice a n c) ls) : ∀ g o, a = some ⟨g, o, none⟩ → B ≤ g ∧ g < w.heap.size := by
  intro g o e
  subst e
  exact World.ownsRow.lt h g rfl
theorem belOnK {w W W' : World} (h0 : Below w.heap.size w W) (h1 : Below W.heap.size W W') : Below w.heap.size w W' := h0.trans (h1.mono h0.size)
namespace Plain
def AddP (ls : List ByteArray) (d : ByteArray) (ok : Bool) (out : List ByteArray) : Prop := (ok = true ∧ addOk ls d ∧ out = insB d ls) ∨ (ok = false ∧ ¬ addOk ls d ∧ out = [])
theorem add_len {ls : List ByteArray} {d : ByteArray} {ok : Bool} {out : List ByteArray} (h : AddP ls d ok out) : out.length ≤ 200 := by
  rcases h with ⟨_, q, rfl⟩ | ⟨_, _, rfl⟩
  · exact q.2.2
  · simp
theorem add_one {ls : List ByteArray} {d : ByteArray} {ok ok' : Bool} {out out' : List ByteArray} (h : AddP ls d ok out) (h' : AddP ls d ok' out') : ok = ok' ∧ out = out' := by
  rcases h with ⟨rfl, q, rfl⟩ | ⟨rfl, q, rfl⟩ <;> rcases h' with ⟨rfl, q', rfl⟩ | ⟨rfl, q', rfl⟩
  · exact ⟨rfl, rfl⟩
  · exact absurd q q'
  · exact absurd q' q
  · exact ⟨rfl, rfl⟩
end Plain

set_option maxRecDepth 100000 in
set_option maxHeartbeats 2000000 in
theorem spec_AddTo (a : Option Addr) (n c : Nat) (ls : List ByteArray) (d : ByteArray) (w : World) (h : TxtsAt w a n ls) (had : AdG a c) (hd : d.size ≤ 1000000000) :
    Calls Try.prog 13 #[.slice a n c, .string d] w fun e w' => ∃ v ok out, e = .returned (.tuple #[v, .bool ok]) ∧ OwnR strE w' w.heap.size v out ∧ Hid ((ok = true ∧ addOk ls d ∧ out = insB d ls) ∨ (ok = false ∧ ¬ addOk ls d ∧ out = [])) ∧ Below w.heap.size w w' := by
  have HS := hide (l7Set_calls a n c ls w h)
  have HDG := hide (fun W => spec_DigestOk d W (by omega))
  cases hs : setB ls with
  | false =>
    have HX := hide (show ¬ addOk ls d from fun q => by rw [q.1] at hs; cases hs)
    rw [hs] at HS
    clear h had
    go_enter Try.func13, Try.ntmps13
    go_wp2_with fail
    refine (unhide HS).mono ?_
    rintro e w1 ⟨rfl, hb1⟩
    have hz := hb1.size
    go_wp2_with fail
    exact bodyPost_ret (v := .tuple #[.slice (some ⟨w1.heap.size, 0, none⟩) 0 0, .bool false]) (by simp [results, Try.results13, go_sem]) rfl ⟨_, _, [], rfl, ownR_empty strE w1 w.heap.size hz, hide (.inr ⟨rfl, unhide HX, rfl⟩), hb1.alloc hz _⟩
  | true =>
    obtain ⟨s1, s2, s3⟩ := setB_all hs
    rw [hs] at HS
    cases hdg : digB d with
    | false =>
      have HX := hide (show ¬ addOk ls d from fun q => by rw [q.2.1] at hdg; cases hdg)
      rw [hdg] at HDG
      clear h had
      go_enter Try.func13, Try.ntmps13
      go_wp2_with fail
      refine (unhide HS).mono ?_
      rintro e w1 ⟨rfl, hb1⟩
      have hz := hb1.size
      go_wp2_with fail
      refine (unhide HDG _).mono ?_
      rintro e w2 ⟨rfl, rfl⟩
      go_wp2_with fail
      exact bodyPost_ret (v := .tuple #[.slice (some ⟨w1.heap.size, 0, none⟩) 0 0, .bool false]) (by simp [results, Try.results13, go_sem]) rfl ⟨_, _, [], rfl, ownR_empty strE w1 w.heap.size hz, hide (.inr ⟨rfl, unhide HX, rfl⟩), hb1.alloc hz _⟩
    | true =>
      rw [hdg] at HDG
      have hn := h.len
      have HRW := hide (fun (W : World) (hW : Below w.heap.size w W) => (h.below hW).row)
      have HRI := hide (fun (W : World) (a : Option Addr) (m c : Nat) (q : OwnR strE W w.heap.size (.slice a m c) (ls ++ [d])) (hm : (ls ++ [d]).length = m) => l1Rising_calls a m c (ls ++ [d]) W hm (by simp at hm; omega) q.at.strs)
      have HEX := hide (fun (out : List ByteArray) (q : Strict out) (p : ∀ x, x ∈ out ↔ x ∈ ls ++ [d]) => strict_ext q (insB_strict (d := d) s3) (fun x => by rw [p, insB_mem]; simp))
      have hI3 : (insB d ls).length ≤ 201 := by
        have h9 := insB_len (d := d) s3
        split at h9 <;> omega
      have HAO := hide (show (insB d ls).length ≤ 200 → addOk ls d from fun q => ⟨hs, hdg, q⟩)
      have HAN := hide (show 200 < (insB d ls).length → ¬ addOk ls d from fun q p => by have := p.2.2; omega)
      have HAD := hide had
      clear h had hs hdg s2 s3
      obtain ⟨L, hL⟩ : ∃ L, (insB d ls).length = L := ⟨_, rfl⟩
      have HL := hide hL
      rw [hL] at hI3 HAO HAN
      clear hL
      go_enter Try.func13, Try.ntmps13
      go_wp2_with fail
      refine (unhide HS).mono ?_
      rintro e w1 ⟨rfl, hb1⟩
      have hz := hb1.size
      go_wp2_with fail
      refine (unhide HDG _).mono ?_
      rintro e w2 ⟨rfl, rfl⟩
      have hba := hb1.alloc hz (.cells #[] 9)
      have HB1 := hide hba
      have hzb := hba.size
      have HR1 := hide (unhide HRW _ hba)
      clear hb1 hba
      go_wp2_with (first
        | (at_builtin; refine appGG (e := strE) rfl (.tmp 16) (.tmp 17) rfl (ownR_empty strE w1 w.heap.size hz) rfl a n c rfl hn (unhide HR1) (unhide HAD) (by simp; omega) hzb ?_; intro v3 w3 hO3 hb3; obtain ⟨a3, c3, hv3⟩ := hO3.form; rw [List.nil_append] at hO3; rw [List.nil_append, hn] at hv3; subst hv3; have HB3 := hide ((unhide HB1).trans hb3); have hz3 := (unhide HB3).size)
        | (at_builtin; refine appR rfl (.tmp 18) (.tmp 20) rfl hO3 rfl d rfl _ rfl rfl (by omega) hz3 ?_; intro v4 w4 hO4 hb4 _; obtain ⟨a4, c4, hv4⟩ := hO4.form; rw [List.length_append, hn] at hv4; simp only [List.length_cons, List.length_nil, Nat.zero_add] at hv4; subst hv4; have HB4 := hide ((unhide HB3).trans hb4); have hz4 := (unhide HB4).size))
      have HR4 := hide (unhide HRI w4 a4 (n + 1) c4 hO4 (by simp; omega))
      clear hO4 hb4 hO3 hb3
      refine (unhide HR4).mono ?_
      rintro e w5 ⟨v5, out, rfl, hO5, HST, hb5⟩
      obtain rfl := unhide HEX out (unhide HST).1 (unhide HST).2
      obtain ⟨a5, c5, hv5⟩ := hO5.form
      rw [unhide HL] at hv5
      subst hv5
      have HO5 := hide (OwnR.le hO5 hz4)
      have HB5 := hide ((unhide HB4).trans (hb5.mono hz4))
      have hz5 := (unhide HB5).size
      clear hO5 hb5 HST HEX
      by_cases hbig : (200 : Int) < (L : Int)
      · have HX := hide (unhide HAN (by omega))
        go_wp2_with fail
        exact bodyPost_ret (v := .tuple #[.slice (some ⟨w5.heap.size, 0, none⟩) 0 0, .bool false]) (by simp [results, Try.results13, go_sem]) rfl ⟨_, _, [], rfl, ownR_empty strE w5 w.heap.size hz5, hide (.inr ⟨rfl, unhide HX, rfl⟩), (unhide HB5).alloc hz5 _⟩
      · have HX := hide (unhide HAO (by omega))
        go_wp2_with fail
        exact bodyPost_ret (v := .tuple #[.slice a5 L c5, .bool true]) (by simp [results, Try.results13, go_sem]) rfl ⟨_, _, _, rfl, unhide HO5, hide (.inl ⟨rfl, unhide HX, rfl⟩), unhide HB5⟩
end Go.Proofs.Ytnokbnoncdebmaa
