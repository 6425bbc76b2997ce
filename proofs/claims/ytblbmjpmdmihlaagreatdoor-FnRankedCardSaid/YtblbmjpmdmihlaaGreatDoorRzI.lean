/- Texts of one kind, put together. -/
import Derived.Test.YtblbmjpmdmihlaaGreatDoorRzE
import Derived.Test.YtblbmjpmdmihlaaGreatDoorDrawQ
import Derived.Test.YtblbmjpmdmihlaaGreatDoorRzB

/- Nodes that are drawn. -/
namespace Go.Proofs.YtblbmjpmdmihlaaGreatDoor
open Go.RowKit Plain
set_option linter.unusedVariables false

theorem OwnR.onlN {α : Type} {e : Elem α} {W w' : World} {B : Nat} {v : Value} {xs : List α} {q : Addr} (h : OwnR e W B v xs) (ho : OnlyAt q W w') (hq : q.block < B) : OwnR e w' B v xs := by
  have hlt := h.lt
  refine ⟨h.1, ?_⟩
  rcases h.2 with ⟨a, c⟩ | ⟨g, cap, cur, rfl, c, d, r⟩
  · exact .inl ⟨a, c⟩
  · exact .inr ⟨g, cap, cur, rfl, c, (ho.block g (hlt g rfl) (by omega)).trans d, r⟩

set_option maxRecDepth 10000 in
set_option maxHeartbeats 2000000 in
theorem nodes_calls (R : Nat) (a : Option Addr) (len cap : Nat) (zs : List Int) (w : World) (h : Rd w R a len cap zs) :
    Calls Tryz.prog 14 #[.pointer (some ⟨R, 0, none⟩)] w fun e w' => ∃ (v : Value) (ds : List Int), e = .returned v ∧ Hid (OwnR i64E w' w.heap.size v ds) ∧ ds.length ≤ 7 ∧ Rd w' R a len cap zs ∧ OnlyAt ⟨R, 1, none⟩ w w' := by
  have hR := h.lt
  have HO0 := hide (ownR_empty i64E w w.heap.size (Nat.le_refl _))
  have HD0 := hide ((DS.start h).alloc (.cells #[] 2))
  clear h
  go_enter Tryz.func14, Tryz.ntmps14
  go_wp2_with fail
  go_loopw [3, 4] (fun s3 s4 wr => ∃ (k : Nat) (ds : List Int), s4 = .int .i64 ((k + 1 : Nat) : Int) ∧ k ≤ 6 ∧ ds.length ≤ k ∧ w.heap.size ≤ wr.heap.size ∧ Hid (DS w R a len cap zs wr) ∧ Hid (OwnR i64E wr w.heap.size s3 ds)) (fun _ s4 _ => 7 - (intOf s4).toNat)
  case atStart => exact ⟨0, [], rfl, by omega, by simp, by simp, HD0, HO0⟩
  case round =>
    clear HO0 HD0
    obtain ⟨k, ds, rfl, hk, hds, hz, HD, HO⟩ := hrel
    obtain ⟨av, cv, hv⟩ := (unhide HO).form
    subst hv
    obtain ⟨q, hq⟩ : ∃ q, ds.length = q := ⟨_, rfl⟩
    rw [hq] at HO hds ⊢
    by_cases hk6 : k < 6
    · obtain ⟨x, hx⟩ : ∃ x : Int, ((k + 1 : Nat) : Int) = x := ⟨_, rfl⟩
      rw [hx]
      have hx6 : x ≤ 6 := by omega
      have hx1 : IntKind.i64.wrap (x + 1) = x + 1 := by rw [IntKind.wrap_i64]; omega
      go_wp2_with fail
      refine (once_calls R a len cap zs 2 _ (unhide HD).rd (by omega) (by omega)).mono ?_
      rintro e w1 ⟨b, rfl, hR1, ho1⟩
      have HD1 := hide ((unhide HD).call hR1 ho1)
      have HO1 := hide ((unhide HO).onlN ho1 (by simp; omega))
      have hz1 : w.heap.size ≤ w1.heap.size := Nat.le_trans hz ho1.size
      clear hR1 ho1 HD HO
      cases b with
      | false =>
        go_wp2_with fail
        go_roundw
        case rel => exact ⟨k + 1, ds, by rw [show ((k + 1 + 1 : Nat) : Int) = x + 1 from by omega], by omega, by omega, hz1, HD1, HO1⟩
        case measure => simp [intOf]; omega
      | true =>
        have hlen : ds.length < 100000000 := by omega
        go_wp2_with (at_builtin; go_must (refine appR (e := i64E) rfl _ _ rfl (unhide HO1) rfl x rfl _ rfl rfl hlen hz1 ?_); intro v' w6 hown6 hb6 hg6; obtain ⟨av', cv', hv'⟩ := hown6.form; rw [show (ds ++ [x]).length = q + 1 from by rw [List.length_append, hq]; rfl] at hv'; subst hv')
        go_roundw
        case rel => exact ⟨k + 1, ds ++ [x], by rw [show ((k + 1 + 1 : Nat) : Int) = x + 1 from by omega], by omega, by rw [List.length_append, hq]; simp; omega, by have := hb6.size; omega, hide ((unhide HD1).belowB hb6 hR (Nat.le_refl _)), hide hown6⟩
        case measure => simp [intOf]; omega
    · obtain rfl : k = 6 := by omega
      go_wp2_with fail
      refine (once_calls R a len cap zs 24 _ (unhide HD).rd (by omega) (by omega)).mono ?_
      rintro e w1 ⟨b, rfl, hR1, ho1⟩
      have HD1 := hide ((unhide HD).call hR1 ho1)
      have HO1 := hide ((unhide HO).onlN ho1 (by simp; omega))
      have hz1 : w.heap.size ≤ w1.heap.size := Nat.le_trans hz ho1.size
      clear hR1 ho1 HD HO
      cases b with
      | false =>
        go_wp2_with fail
        go_ret
        exact ⟨.slice av q cv, ds, rfl, HO1, by omega, (unhide HD1).rd, (unhide HD1).only⟩
      | true =>
        go_wp2_with fail
        refine (off_calls R a len cap zs 1 50 _ (unhide HD1).rd (by omega) (by omega) (by omega)).mono ?_
        rintro e w2 ⟨x, rfl, hx0, hx1, hR2, ho2⟩
        have HD2 := hide ((unhide HD1).call hR2 ho2)
        have HO2 := hide ((unhide HO1).onlN ho2 (by simp; omega))
        have hz2 : w.heap.size ≤ w2.heap.size := Nat.le_trans hz1 ho2.size
        have hlen : ds.length < 100000000 := by omega
        clear hR2 ho2 HD1 HO1
        go_wp2_with (at_builtin; go_must (refine appR (e := i64E) rfl _ _ rfl (unhide HO2) rfl x rfl _ rfl rfl hlen hz2 ?_); intro v' w6 hown6 hb6 hg6; obtain ⟨av', cv', hv'⟩ := hown6.form; rw [show (ds ++ [x]).length = q + 1 from by rw [List.length_append, hq]; rfl] at hv'; subst hv')
        go_ret
        have HD6 := (unhide HD2).belowB hb6 hR (Nat.le_refl _)
        exact ⟨.slice av' (q + 1) cv', ds ++ [x], rfl, hide hown6, by rw [List.length_append, hq]; simp; omega, HD6.rd, HD6.only⟩
end Go.Proofs.YtblbmjpmdmihlaaGreatDoor


/- A digest, nodes and a number that are drawn. -/
namespace Go.Proofs.YtblbmjpmdmihlaaGreatDoor
open Go.RowKit Plain
set_option linter.unusedVariables false

set_option maxRecDepth 10000 in
set_option maxHeartbeats 2000000 in
theorem DrawHolders_calls (a : Option Addr) (len cap : Nat) (zs : List Int) (w : World) (h : IsRow .u8 w a len cap zs) (hl : len ≤ 1048576) :
    Calls Tryz.prog 5 #[.slice a len cap] w fun e w' => ∃ (d : ByteArray) (v : Value) (ds : List Int) (k : Int), e = .returned (.tuple #[.string d, v, .int .i64 k]) ∧ d.size ≤ 80 ∧ Hid (OwnR i64E w' w.heap.size v ds) ∧ ds.length ≤ 7 ∧ Below w.heap.size w w' := by
  have HOP := hide (open_calls a len cap zs w h hl)
  clear h
  go_enter Tryz.func5, Tryz.ntmps5
  go_wp2_with fail
  refine (unhide HOP).mono ?_
  rintro e w1 ⟨rfl, hR1, hb1⟩
  have HB1 := hide hb1
  have HD1 := hide (DS.start hR1)
  clear hb1
  have hRl := hR1.lt
  clear hR1
  go_wp2_with fail
  refine (oddDigest_calls _ a len cap zs _ (unhide HD1).rd).mono ?_
  rintro e w2 ⟨d, rfl, hd, hR2, ho2⟩
  have HD2 := hide ((unhide HD1).call hR2 ho2)
  have hz2 := ho2.size
  clear hR2 ho2
  go_wp2_with fail
  refine (nodes_calls _ a len cap zs _ (unhide HD2).rd).mono ?_
  rintro e w3 ⟨v, ds, rfl, HO3, hds, hR3, ho3⟩
  have HD3 := hide ((unhide HD2).call hR3 ho3)
  have hz3 := ho3.size
  clear hR3 ho3
  go_wp2_with fail
  refine (off_calls _ a len cap zs 1 4 _ (unhide HD3).rd (by omega) (by omega) (by omega)).mono ?_
  rintro e w4 ⟨k, rfl, hk0, hk1, hR4, ho4⟩
  have HD4 := hide ((unhide HD3).call hR4 ho4)
  have HO4 := hide (((unhide HO3).onlN ho4 (by simp; omega)).le (B' := w.heap.size) (by omega))
  clear hR4 ho4
  go_wp2_with fail
  have hz1 := (unhide HB1).size
  exact bodyPost_ret (v := .tuple #[.string d, v, .int .i64 k]) (by simp [results, Tryz.results5, go_sem]) rfl ⟨d, v, ds, k, rfl, hd, HO4, hds, (unhide HB1).trans ((unhide HD4).only.below (B := w.heap.size) (by simp) hz1)⟩
end Go.Proofs.YtblbmjpmdmihlaaGreatDoor

