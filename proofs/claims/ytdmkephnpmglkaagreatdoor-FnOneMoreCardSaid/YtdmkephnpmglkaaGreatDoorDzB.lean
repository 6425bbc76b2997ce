/- Texts of one kind, put together. -/
import Derived.Test.YtdmkephnpmglkaaGreatDoorDzA
import Derived.Test.YtdmkephnpmglkaaGreatDoorShaG
import Derived.Test.YtdmkephnpmglkaaGreatDoorRzB
import Derived.Test.YtdmkephnpmglkaaGreatDoorRis
import Derived.Test.YtdmkephnpmglkaaGreatDoorRzM

/- What is drawn for references: short texts. -/
namespace Go.Proofs.YtdmkephnpmglkaaGreatDoor
open Go.RowKit Plain
set_option linter.unusedVariables false

namespace Plain
def repoL : List ByteArray := [⟨#[97, 112, 112]⟩, ⟨#[97, 47, 98]⟩, ⟨#[108, 105, 98, 47, 119, 101, 98, 45, 49]⟩, ⟨#[120, 46, 121, 47, 122, 95, 95, 113]⟩, ⟨#[109, 45, 45, 110]⟩, ⟨#[97, 112, 112]⟩]
def repoV : Array Value := (repoL.map Value.string).toArray
theorem repoV_get (k : Nat) (h : k < 6) : repoV[k]? = some (.string (repoL.getD k ByteArray.empty)) := by
  match k, h with
  | 0, _ => rfl
  | 1, _ => rfl
  | 2, _ => rfl
  | 3, _ => rfl
  | 4, _ => rfl
  | 5, _ => rfl
theorem repo_size : ∀ k : Fin 6, (repoL.getD k.val ByteArray.empty).size ≤ 9 := by decide +kernel

def taggL : List ByteArray := [⟨#[118, 49]⟩, ⟨#[108, 97, 116, 101, 115, 116]⟩, ⟨#[86, 50, 46, 48]⟩, ⟨#[95, 120]⟩, ⟨#[118, 49]⟩, ⟨#[49, 45, 97]⟩]
def taggV : Array Value := (taggL.map Value.string).toArray
theorem taggV_get (k : Nat) (h : k < 6) : taggV[k]? = some (.string (taggL.getD k ByteArray.empty)) := by
  match k, h with
  | 0, _ => rfl
  | 1, _ => rfl
  | 2, _ => rfl
  | 3, _ => rfl
  | 4, _ => rfl
  | 5, _ => rfl
theorem tagg_size : ∀ k : Fin 6, (taggL.getD k.val ByteArray.empty).size ≤ 6 := by decide +kernel
end Plain







end Go.Proofs.YtdmkephnpmglkaaGreatDoor

/- Nodes that are drawn. -/
namespace Go.Proofs.YtdmkephnpmglkaaGreatDoor
open Go.RowKit Plain
set_option linter.unusedVariables false

theorem OwnR.onlN {α : Type} {e : Elem α} {W w' : World} {B : Nat} {v : Value} {xs : List α} {q : Addr} (h : OwnR e W B v xs) (ho : OnlyAt q W w') (hq : q.block < B) : OwnR e w' B v xs := by
  have hlt := h.lt
  refine ⟨h.1, ?_⟩
  rcases h.2 with ⟨a, c⟩ | ⟨g, cap, cur, rfl, c, d, r⟩
  · exact .inl ⟨a, c⟩
  · exact .inr ⟨g, cap, cur, rfl, c, (ho.block g (hlt g rfl) (by omega)).trans d, r⟩

set_option maxRecDepth 10000 in
set_option maxHeartbeats 2000000 in
theorem nodes_calls (R : Nat) (a : Option Addr) (len cap : Nat) (zs : List Int) (w : World) (h : Rd w R a len cap zs) :
    Calls Tryz.prog 12 #[.pointer (some ⟨R, 0, none⟩)] w fun e w' => ∃ (v : Value) (ds : List Int), e = .returned v ∧ Hid (OwnR i64E w' w.heap.size v ds) ∧ ds.length ≤ 7 ∧ Rd w' R a len cap zs ∧ OnlyAt ⟨R, 1, none⟩ w w' := by
  have hR := h.lt
  have HO0 := hide (ownR_empty i64E w w.heap.size (Nat.le_refl _))
  have HD0 := hide ((DS.start h).alloc (.cells #[] 2))
  clear h
  go_enter Tryz.func12, Tryz.ntmps12
  go_wp2_with fail
  go_loopw [3, 4] (fun s3 s4 wr => ∃ (k : Nat) (ds : List Int), s4 = .int .i64 ((k + 1 : Nat) : Int) ∧ k ≤ 6 ∧ ds.length ≤ k ∧ w.heap.size ≤ wr.heap.size ∧ Hid (DS w R a len cap zs wr) ∧ Hid (OwnR i64E wr w.heap.size s3 ds)) (fun _ s4 _ => 7 - (intOf s4).toNat)
  case atStart => exact ⟨0, [], rfl, by omega, by simp, by simp, HD0, HO0⟩
  case round =>
    clear HO0 HD0
    obtain ⟨k, ds, rfl, hk, hds, hz, HD, HO⟩ := hrel
    obtain ⟨av, cv, hv⟩ := (unhide HO).form
    subst hv
    obtain ⟨q, hq⟩ : ∃ q, ds.length = q := ⟨_, rfl⟩
    rw [hq] at HO hds ⊢
    by_cases hk6 : k < 6
    · obtain ⟨x, hx⟩ : ∃ x : Int, ((k + 1 : Nat) : Int) = x := ⟨_, rfl⟩
      rw [hx]
      have hx6 : x ≤ 6 := by omega
      have hx1 : IntKind.i64.wrap (x + 1) = x + 1 := by rw [IntKind.wrap_i64]; omega
      go_wp2_with fail
      refine (once_calls R a len cap zs 2 _ (unhide HD).rd (by omega) (by omega)).mono ?_
      rintro e w1 ⟨b, rfl, hR1, ho1⟩
      have HD1 := hide ((unhide HD).call hR1 ho1)
      have HO1 := hide ((unhide HO).onlN ho1 (by simp; omega))
      have hz1 : w.heap.size ≤ w1.heap.size := Nat.le_trans hz ho1.size
      clear hR1 ho1 HD HO
      cases b with
      | false =>
        go_wp2_with fail
        go_roundw
        case rel => exact ⟨k + 1, ds, by rw [show ((k + 1 + 1 : Nat) : Int) = x + 1 from by omega], by omega, by omega, hz1, HD1, HO1⟩
        case measure => simp [intOf]; omega
      | true =>
        have hlen : ds.length < 100000000 := by omega
        go_wp2_with (at_builtin; go_must (refine appR (e := i64E) rfl _ _ rfl (unhide HO1) rfl x rfl _ rfl rfl hlen hz1 ?_); intro v' w6 hown6 hb6 hg6; obtain ⟨av', cv', hv'⟩ := hown6.form; rw [show (ds ++ [x]).length = q + 1 from by rw [List.length_append, hq]; rfl] at hv'; subst hv')
        go_roundw
        case rel => exact ⟨k + 1, ds ++ [x], by rw [show ((k + 1 + 1 : Nat) : Int) = x + 1 from by omega], by omega, by rw [List.length_append, hq]; simp; omega, by have := hb6.size; omega, hide ((unhide HD1).belowB hb6 hR (Nat.le_refl _)), hide hown6⟩
        case measure => simp [intOf]; omega
    · obtain rfl : k = 6 := by omega
      go_wp2_with fail
      refine (once_calls R a len cap zs 24 _ (unhide HD).rd (by omega) (by omega)).mono ?_
      rintro e w1 ⟨b, rfl, hR1, ho1⟩
      have HD1 := hide ((unhide HD).call hR1 ho1)
      have HO1 := hide ((unhide HO).onlN ho1 (by simp; omega))
      have hz1 : w.heap.size ≤ w1.heap.size := Nat.le_trans hz ho1.size
      clear hR1 ho1 HD HO
      cases b with
      | false =>
        go_wp2_with fail
        go_ret
        exact ⟨.slice av q cv, ds, rfl, HO1, by omega, (unhide HD1).rd, (unhide HD1).only⟩
      | true =>
        go_wp2_with fail
        refine (off_calls R a len cap zs 1 50 _ (unhide HD1).rd (by omega) (by omega) (by omega)).mono ?_
        rintro e w2 ⟨x, rfl, hx0, hx1, hR2, ho2⟩
        have HD2 := hide ((unhide HD1).call hR2 ho2)
        have HO2 := hide ((unhide HO1).onlN ho2 (by simp; omega))
        have hz2 : w.heap.size ≤ w2.heap.size := Nat.le_trans hz1 ho2.size
        have hlen : ds.length < 100000000 := by omega
        clear hR2 ho2 HD1 HO1
        go_wp2_with (at_builtin; go_must (refine appR (e := i64E) rfl _ _ rfl (unhide HO2) rfl x rfl _ rfl rfl hlen hz2 ?_); intro v' w6 hown6 hb6 hg6; obtain ⟨av', cv', hv'⟩ := hown6.form; rw [show (ds ++ [x]).length = q + 1 from by rw [List.length_append, hq]; rfl] at hv'; subst hv')
        go_ret
        have HD6 := (unhide HD2).belowB hb6 hR (Nat.le_refl _)
        exact ⟨.slice av' (q + 1) cv', ds ++ [x], rfl, hide hown6, by rw [List.length_append, hq]; simp; omega, HD6.rd, HD6.only⟩
end Go.Proofs.YtdmkephnpmglkaaGreatDoor


/- Sets of digests that are drawn. -/
namespace Go.Proofs.YtdmkephnpmglkaaGreatDoor
open Go.RowKit Plain
set_option linter.unusedVariables false

namespace Plain
def eigL : List ByteArray := [⟨#[97]⟩, ⟨#[98]⟩, ⟨#[99]⟩, ⟨#[100]⟩, ⟨#[101]⟩, ⟨#[102]⟩, ⟨#[103]⟩, ⟨#[104]⟩]
def eigV : Array Value := #[.string ⟨#[97]⟩, .string ⟨#[98]⟩, .string ⟨#[99]⟩, .string ⟨#[100]⟩, .string ⟨#[101]⟩, .string ⟨#[102]⟩, .string ⟨#[103]⟩, .string ⟨#[104]⟩]
theorem eigV_get : ∀ (K : Nat), K < 8 → eigV[K]? = some (.string (eigL.getD K ByteArray.empty)) := by
  intro K h
  match K, h with
  | 0, _ => rfl
  | 1, _ => rfl
  | 2, _ => rfl
  | 3, _ => rfl
  | 4, _ => rfl
  | 5, _ => rfl
  | 6, _ => rfl
  | 7, _ => rfl
theorem eig_size : ∀ (K : Nat), K < 8 → (eigL.getD K ByteArray.empty).size = 1 := by
  intro K h
  match K, h with
  | 0, _ => rfl
  | 1, _ => rfl
  | 2, _ => rfl
  | 3, _ => rfl
  | 4, _ => rfl
  | 5, _ => rfl
  | 6, _ => rfl
  | 7, _ => rfl
/-- Texts that are all among others and each once are no more. -/
theorem nodup_len : ∀ (l m : List ByteArray), l.Nodup → (∀ x ∈ l, x ∈ m) → l.length ≤ m.length
  | [], m, _, _ => by simp
  | a :: l, m, hn, h => by
    have ha := h a (by simp)
    obtain ⟨m1, m2, rfl⟩ := List.append_of_mem ha
    rw [List.nodup_cons] at hn
    have := nodup_len l (m1 ++ m2) hn.2 fun x hx => by
      have h1 := h x (List.mem_cons_of_mem _ hx)
      rw [List.mem_append, List.mem_cons] at h1
      rw [List.mem_append]
      rcases h1 with q | rfl | q
      · exact .inl q
      · exact absurd hx hn.1
      · exact .inr q
    rw [List.length_cons, List.length_append, List.length_cons]
    rw [List.length_append] at this
    omega
theorem strict_nodup {l : List ByteArray} (h : Strict l) : l.Nodup := h.imp fun {a b} h e => by subst e; exact ltB_irrefl _ h
end Plain

set_option maxRecDepth 10000 in
set_option maxHeartbeats 4000000 in
theorem set_calls (R : Nat) (a : Option Addr) (len cap : Nat) (zs : List Int) (w : World) (h : Rd w R a len cap zs) :
    Calls Tryz.prog 28 #[.pointer (some ⟨R, 0, none⟩)] w fun e w' => ∃ (v : Value) (ds : List ByteArray), e = .returned v ∧ Hid (OwnR strE w' w.heap.size v ds) ∧ Hid (∀ s ∈ ds, s.size ≤ 100) ∧ ds.length ≤ 12 ∧ Rd w' R a len cap zs ∧ OnlyAt ⟨R, 1, none⟩ w w' := by
  have hR := h.lt
  have hl : len ≤ 1048576 := by obtain ⟨p, hp⟩ := h; exact hp.small
  have c0 : w.cell? ⟨R, 0, none⟩ = some (.slice a len cap) := by obtain ⟨p, hp⟩ := h; exact hp.c0
  have HO0 := hide (ownR_empty strE w w.heap.size (Nat.le_refl _))
  have HD0 := hide ((DS.start h).alloc (.cells #[] 9))
  have c1 : (w.alloc (.cells #[] 9)).cell? ⟨R, 0, none⟩ = some (.slice a len cap) := by obtain ⟨p, hp⟩ := (unhide HD0).rd; exact hp.c0
  clear h
  go_enter Tryz.func28, Tryz.ntmps28
  go_wp2_with fail
  obtain ⟨N, hN⟩ : ∃ N : Int, min 6 (1 + (len : Int) / 3) = N := ⟨_, rfl⟩
  have hN1 : 1 ≤ N := by omega
  have hN6 : N ≤ 6 := by omega
  rw [hN]
  clear hN c0 c1
  refine (below_calls R a len cap zs N _ (unhide HD0).rd hN1 (by omega)).mono ?_
  rintro e w1 ⟨v, rfl, hv0, hv1, hR1, ho1⟩
  obtain ⟨V, rfl⟩ := Int.eq_ofNat_of_zero_le hv0
  have HD1 := hide ((unhide HD0).call hR1 ho1)
  have HO1 := hide ((unhide HO0).onlN ho1 (by simp; omega))
  have hz1 : w.heap.size ≤ w1.heap.size := by have := ho1.size; simp at this; omega
  clear hR1 ho1 HD0 HO0
  go_wp2_with fail
  go_loopw [3, 4] (fun s3 s4 wr => ∃ (j : Nat) (ds : List ByteArray), s4 = .int .i64 j ∧ j ≤ 5 ∧ ds.length + 2 * j ≤ 12 ∧ w.heap.size ≤ wr.heap.size ∧ Hid (∀ s ∈ ds, s.size ≤ 100) ∧ Hid (DS w R a len cap zs wr) ∧ Hid (OwnR strE wr w.heap.size s3 ds)) (fun _ s4 _ => (intOf s4).toNat)
  case atStart => exact ⟨V, [], rfl, by omega, by simp; omega, hz1, hide (fun s hs => by cases hs), HD1, HO1⟩
  case round =>
    clear HO1 HD1 hz1 hv0 hv1
    obtain ⟨j, ds, rfl, hj, hds, hz, HF, HD, HO⟩ := hrel
    obtain ⟨av, cv, hv⟩ := (unhide HO).form
    obtain ⟨q, hq⟩ : ∃ q, ds.length = q := ⟨_, rfl⟩
    rw [hq] at hv hds
    subst hv
    by_cases hj0 : 0 < j
    · obtain ⟨j', rfl⟩ : ∃ j', j = j' + 1 := ⟨j - 1, by omega⟩
      have hjp : (0 : Int) < ((j' + 1 : Nat) : Int) := by omega
      have hjm : IntKind.i64.wrap (((j' + 1 : Nat) : Int) - 1) = (j' : Int) := by rw [IntKind.wrap_i64]; omega
      have hbA : Below wr.heap.size wr (wr.alloc (.cells eigV 9)) := (Below.refl _ _).alloc (Nat.le_refl _) _
      have HDA := hide ((unhide HD).below hbA)
      have HOA := hide ((unhide HO).keep hbA)
      have HNW := hide (h_new wr (.cells eigV 9) rfl)
      have hRw : R < wr.heap.size := by omega
      clear hbA HD HO
      go_wp2_with fail
      refine (below_calls R a len cap zs 8 _ (unhide HDA).rd (by omega) (by omega)).mono ?_
      rintro e w2 ⟨v, rfl, hv0, hv1, hR2, ho2⟩
      obtain ⟨K, rfl⟩ := Int.eq_ofNat_of_zero_le hv0
      have hK : K < 8 := by omega
      have hc : w2.cell? ⟨wr.heap.size, K, none⟩ = some (.string (eigL.getD K ByteArray.empty)) := by
        rw [ho2.cell ⟨wr.heap.size, K, none⟩ (by simp) (by simp <;> omega)]
        exact (cell_of_row _ _ K eigV _ _ (unhide HNW)).trans (eigV_get K hK)
      have hs1 := eig_size K hK
      generalize eigL.getD K ByteArray.empty = s at hc hs1
      have HD2 := hide ((unhide HDA).call hR2 ho2)
      have HO2 := hide ((unhide HOA).onlN ho2 (by simp; omega))
      have hz2 : w.heap.size ≤ w2.heap.size := by have := ho2.size; simp at this; omega
      clear hR2 ho2 HDA HOA HNW
      go_wp2_with fail
      refine (specDigest_calls s _ (by omega)).mono ?_
      rintro e w3 ⟨rfl, hb3⟩
      have HD3 := hide ((unhide HD2).below hb3)
      have HO3 := hide ((unhide HO2).keep hb3)
      have hz3 : w.heap.size ≤ w3.heap.size := Nat.le_trans hz2 hb3.size
      have hgz := digestB_size s
      generalize digestB s = g at hgz
      have hlen : ds.length < 100000000 := by omega
      have HLQ := hide (show (ds ++ [g]).length = q + 1 from by rw [List.length_append, hq]; rfl)
      have HFG := hide (show ∀ s ∈ ds ++ [g], s.size ≤ 100 from fun s hs => by
        rcases List.mem_append.1 hs with h | h
        · exact unhide HF s h
        · obtain rfl := List.mem_singleton.1 h; omega)
      clear hb3 HD2 HO2 hc HF
      go_wp2_with (at_builtin; go_must (refine appR (e := strE) rfl _ _ rfl (unhide HO3) rfl g rfl _ rfl rfl hlen hz3 ?_); intro v' w6 hown6 hb6 hg6; obtain ⟨av', cv', hv'⟩ := hown6.form; rw [unhide HLQ] at hv'; subst hv')
      have HO6 := hide hown6
      have HD6 := hide ((unhide HD3).belowB hb6 hR (Nat.le_refl _))
      have hz6 : w.heap.size ≤ w6.heap.size := by have := hb6.size; omega
      clear hown6 hb6 hg6 HO3 HD3
      refine (once_calls R a len cap zs 4 _ (unhide HD6).rd (by omega) (by omega)).mono ?_
      rintro e w7 ⟨b, rfl, hR7, ho7⟩
      have HD7 := hide ((unhide HD6).call hR7 ho7)
      have HO7 := hide ((unhide HO6).onlN ho7 (by simp; omega))
      have hz7 : w.heap.size ≤ w7.heap.size := Nat.le_trans hz6 ho7.size
      clear hR7 ho7 HD6 HO6
      cases b with
      | false =>
        go_wp2_with fail
        go_roundw
        case rel => exact ⟨j', ds ++ [g], by go_num, by omega, by rw [unhide HLQ]; omega, hz7, HFG, HD7, HO7⟩
        case measure => simp [intOf]
      | true =>
        obtain ⟨g7, e7, l7, p7, -⟩ := (unhide HO7).at.str q (by rw [unhide HLQ]; omega)
        have hgq : (ds ++ [g])[q]'(by rw [unhide HLQ]; omega) = g := by simp [← hq]
        rw [hgq] at p7
        subst e7
        have iq : IntKind.i64.wrap (((q + 1 : Nat) : Int) - 1) = (q : Int) := by rw [IntKind.wrap_i64]; omega
        have iq0 : (0 : Int) ≤ (q : Int) := by omega
        have iq1 : (q : Int) < ((q + 1 : Nat) : Int) := by omega
        clear hgq
        have z2 : (g.extract 0 70).size = 70 := by rw [ByteArray.size_extract]; omega
        have i70 : (70 : Int) ≤ (g.size : Int) := by omega
        have HBW := hide (below_calls R a len cap zs 16 w7.drew ((unhide HD7).drew.rd) (by omega) (by omega))
        have HOd := hide (show OwnR strE w7.drew w.heap.size (.slice (some ⟨g7, 0, none⟩) (q + 1) cv') (ds ++ [g]) from unhide HO7)
        have hlen8 : (ds ++ [g]).length < 100000000 := by rw [unhide HLQ]; omega
        have hzd : w.heap.size ≤ w7.drew.heap.size := hz7
        go_wp2_with fail
        go_region_law (first
          | (refine stepGG (e := strE) rfl _ _ rfl (w := w8) (unhide HO8) (by simp [Act.eval]) T rfl _ (by simp [Act.eval]) rfl hlen8 hz8 ?_; intro v' w9 hown9 hb9 hg9; obtain ⟨a9, c9, hv9⟩ := hown9.form; rw [unhide HL9] at hv9; subst hv9)
          | (go_simp; refine (unhide HBW).mono ?_; rintro e w8 ⟨x8, rfl, hx0, hx1, hR8, ho8⟩; obtain ⟨K8, rfl⟩ := Int.eq_ofNat_of_zero_le hx0; have HD8 := hide ((unhide HD7).drew.call hR8 ho8); have HO8 := hide ((unhide HOd).onlN ho8 (show R < w.heap.size from hR)); have hz8 : w.heap.size ≤ w8.heap.size := Nat.le_trans hzd ho8.size; have zH : (⟨#[48, 49, 50, 51, 52, 53, 54, 55, 56, 57, 97, 98, 99, 100, 101, 102]⟩ : ByteArray).size = 16 := rfl; have i16 : (K8 : Int) ≤ 16 := (by omega); have z3 : ((⟨#[48, 49, 50, 51, 52, 53, 54, 55, 56, 57, 97, 98, 99, 100, 101, 102]⟩ : ByteArray).extract K8 16).size = 16 - K8 := (by { rw [ByteArray.size_extract, zH]; omega }); have i18 : (1 : Int) ≤ ((16 - K8 : Nat) : Int) := (by omega); have i17 : (1 : Int) ≤ (((⟨#[48, 49, 50, 51, 52, 53, 54, 55, 56, 57, 97, 98, 99, 100, 101, 102]⟩ : ByteArray).extract K8 16).size : Int) := (by omega); have z4 : (((⟨#[48, 49, 50, 51, 52, 53, 54, 55, 56, 57, 97, 98, 99, 100, 101, 102]⟩ : ByteArray).extract K8 16).extract 0 1).size = 1 := (by { rw [ByteArray.size_extract]; omega }); obtain ⟨T, hT⟩ : ∃ T, g.extract 0 70 ++ ((⟨#[48, 49, 50, 51, 52, 53, 54, 55, 56, 57, 97, 98, 99, 100, 101, 102]⟩ : ByteArray).extract K8 16).extract 0 1 = T := ⟨_, rfl⟩; have hTz : T.size ≤ 100 := (by { rw [← hT, ByteArray.size_append, z2, z4]; omega }); have HL9 := hide (show (ds ++ [g] ++ [T]).length = q + 1 + 1 from by { rw [List.length_append, unhide HLQ]; rfl }); have HTZ := hide hTz; clear hTz hR8 ho8))
        all_goals (try go_wp2_with fail)
        all_goals go_roundw
        all_goals first
          | exact ⟨j', ds ++ [g] ++ [T], by go_num, by omega, by rw [unhide HL9]; omega, by have := hb9.size; omega, hide (fun s hs => by
              rcases List.mem_append.1 hs with h | h
              · exact unhide HFG s h
              · obtain rfl := List.mem_singleton.1 h; exact unhide HTZ), hide ((unhide HD8).belowB hb9 hR (Nat.le_refl _)), hide hown9⟩
          | (simp [intOf])
    · obtain rfl : j = 0 := by omega
      go_wp2_with fail
      refine (l1Rising_calls av q cv ds wr hq (by omega) (unhide HO).at.strs).mono ?_
      rintro e w2 ⟨v2, out, rfl, o2, HS2, hb2⟩
      have HO2 := hide (o2.le hz)
      have HD2 := hide ((unhide HD).below hb2)
      have hol : out.length ≤ 12 := by
        have := nodup_len out ds (strict_nodup (unhide HS2).1) fun x hx => ((unhide HS2).2 x).1 hx
        omega
      have HFO := hide (fun s (hs : s ∈ out) => unhide HF s (((unhide HS2).2 s).1 hs))
      clear o2 hb2 HS2
      go_wp2_with fail
      go_ret
      exact ⟨v2, out, rfl, HO2, HFO, hol, (unhide HD2).rd, (unhide HD2).only⟩

set_option maxRecDepth 10000 in
set_option maxHeartbeats 4000000 in
theorem oddSet_calls (R : Nat) (a : Option Addr) (len cap : Nat) (zs : List Int) (w : World) (h : Rd w R a len cap zs) :
    Calls Tryz.prog 11 #[.pointer (some ⟨R, 0, none⟩)] w fun e w' => ∃ (v : Value) (ds : List ByteArray), e = .returned v ∧ Hid (OwnR strE w' w.heap.size v ds) ∧ Hid (∀ s ∈ ds, s.size ≤ 100) ∧ ds.length ≤ 24 ∧ Rd w' R a len cap zs ∧ OnlyAt ⟨R, 1, none⟩ w w' := by
  have hR := h.lt
  have HD0 := hide (DS.start h)
  have HST := hide (set_calls R a len cap zs w h)
  clear h
  go_enter Tryz.func11, Tryz.ntmps11
  go_wp2_with fail
  refine (unhide HST).mono ?_
  rintro e w1 ⟨v, ds, rfl, HO1, HF, hdl, hR1, ho1⟩
  obtain ⟨av, cv, hv⟩ := (unhide HO1).form
  obtain ⟨q, hq⟩ : ∃ q, ds.length = q := ⟨_, rfl⟩
  rw [hq] at hv hdl
  subst hv
  have HD1 := hide ((unhide HD0).call hR1 ho1)
  have hz1 := ho1.size
  clear hR1 ho1 HST HD0
  go_wp2_with fail
  refine (below_calls R a len cap zs 24 _ (unhide HD1).rd (by omega) (by omega)).mono ?_
  rintro e w2 ⟨u, rfl, hu0, hu1, hR2, ho2⟩
  have HD2 := hide ((unhide HD1).call hR2 ho2)
  have HO2 := hide ((unhide HO1).onlN ho2 (by simp; omega))
  have hz2 : w.heap.size ≤ w2.heap.size := Nat.le_trans hz1 ho2.size
  have hlen : ds.length < 100000000 := by omega
  clear hR2 ho2 HD1 HO1
  by_cases c0 : u = 0
  · subst c0
    have HL := hide (show (ds ++ [(⟨#[115, 104, 97, 50, 53, 54, 58]⟩ : ByteArray)]).length = q + 1 from by rw [List.length_append, hq]; rfl)
    go_wp2_with (at_builtin; go_must (refine appR (e := strE) rfl _ _ rfl (unhide HO2) rfl (⟨#[115, 104, 97, 50, 53, 54, 58]⟩ : ByteArray) rfl _ rfl rfl hlen hz2 ?_); intro v' w6 hown6 hb6 hg6; obtain ⟨av', cv', hv'⟩ := hown6.form; rw [unhide HL] at hv'; subst hv')
    go_ret
    have HD6 := (unhide HD2).belowB hb6 hR (Nat.le_refl _)
    exact ⟨.slice av' (q + 1) cv', _, rfl, hide hown6, hide (fun s hs => by
      rcases List.mem_append.1 hs with h | h
      · exact unhide HF s h
      · obtain rfl := List.mem_singleton.1 h; decide), by rw [unhide HL]; omega, HD6.rd, HD6.only⟩
  · have b0 : (u == 0) = false := by simpa using c0
    by_cases c1 : u = 1
    · subst c1
      have HL := hide (show (ds ++ ds).length = q + q from by rw [List.length_append, hq])
      have hlen2 : ds.length + q < 100000000 := by omega
      have HAD := hide (unhide HO2).adG
      have HAT := hide (unhide HO2).at
      go_wp2_with (at_builtin; go_must (refine appGG (e := strE) rfl _ _ rfl (unhide HO2) rfl av q cv rfl hq (unhide HAT) (unhide HAD) hlen2 hz2 ?_); intro v' w6 hown6 hb6; obtain ⟨av', cv', hv'⟩ := hown6.form; rw [unhide HL] at hv'; subst hv')
      go_ret
      have HD6 := (unhide HD2).belowB hb6 hR (Nat.le_refl _)
      exact ⟨.slice av' (q + q) cv', _, rfl, hide hown6, hide (fun s hs => by
        rcases List.mem_append.1 hs with h | h
        · exact unhide HF s h
        · exact unhide HF s h), by rw [unhide HL]; omega, HD6.rd, HD6.only⟩
    · have b1 : (u == 1) = false := by simpa using c1
      go_wp2_with fail
      go_ret
      exact ⟨.slice av q cv, ds, rfl, HO2, HF, by omega, (unhide HD2).rd, (unhide HD2).only⟩
end Go.Proofs.YtdmkephnpmglkaaGreatDoor


/- A set of digests, nodes, other nodes and a number that are drawn. -/
namespace Go.Proofs.YtdmkephnpmglkaaGreatDoor
open Go.RowKit Plain
set_option linter.unusedVariables false

theorem Plain.rowI_one (w : World) (x : Int) : RowAt i64E (w.alloc (.cells #[.int .i64 x] 2)) (some ⟨w.heap.size, 0, none⟩) [x] := by
  intro i hi
  obtain rfl : i = 0 := by simp at hi; omega
  refine ⟨w.heap.size, rfl, by simp, fun j hj => ?_⟩
  obtain rfl : j = 0 := by have : j < 1 := hj; omega
  constructor
  · simp [go_sem]
    rfl
  · simp [go_sem]

set_option maxRecDepth 10000 in
set_option maxHeartbeats 2000000 in
theorem DrawMoves_calls (a : Option Addr) (len cap : Nat) (zs : List Int) (w : World) (h : IsRow .u8 w a len cap zs) (hl : len ≤ 1048576) :
    Calls Tryz.prog 5 #[.slice a len cap] w fun e w' => ∃ (vs : Value) (ss : List ByteArray) (v v3 : Value) (ds : List Int) (k : Int), e = .returned (.tuple #[vs, v, v3, .int .i64 k]) ∧ Hid (OwnR strE w' w.heap.size vs ss) ∧ Hid (∀ s ∈ ss, s.size ≤ 100) ∧ ss.length ≤ 24 ∧ Hid (OwnR i64E w' w.heap.size v ds) ∧ ds.length ≤ 7 ∧ Below w.heap.size w w' := by
  have HOP := hide (open_calls a len cap zs w h hl)
  clear h
  go_enter Tryz.func5, Tryz.ntmps5
  go_wp2_with fail
  refine (unhide HOP).mono ?_
  rintro e w1 ⟨rfl, hR1, hb1⟩
  have HB1 := hide hb1
  have HD1 := hide (DS.start hR1)
  clear hb1
  have hRl := hR1.lt
  clear hR1
  go_wp2_with fail
  refine (oddSet_calls _ a len cap zs _ (unhide HD1).rd).mono ?_
  rintro e w2 ⟨vs, ss, rfl, HS2, HF, hsl, hR2, ho2⟩
  have HD2 := hide ((unhide HD1).call hR2 ho2)
  have hz2 := ho2.size
  clear hR2 ho2
  go_wp2_with fail
  refine (nodes_calls _ a len cap zs _ (unhide HD2).rd).mono ?_
  rintro e w3 ⟨v, ds, rfl, HO3, hds, hR3, ho3⟩
  have HD3 := hide ((unhide HD2).call hR3 ho3)
  have HS3 := hide ((unhide HS2).onlN ho3 (by simp; omega))
  have hz3 := ho3.size
  clear hR3 ho3 HS2
  go_wp2_with fail
  refine (once_calls _ a len cap zs 2 _ (unhide HD3).rd (by omega) (by omega)).mono ?_
  rintro e w4 ⟨b, rfl, hR4, ho4⟩
  have HD4 := hide ((unhide HD3).call hR4 ho4)
  have HS4 := hide ((unhide HS3).onlN ho4 (by simp; omega))
  have HO4 := hide ((unhide HO3).onlN ho4 (by simp; omega))
  have hz4 := ho4.size
  clear hR4 ho4 HS3 HO3
  cases b with
  | false =>
    go_wp2_with fail
    refine (nodes_calls _ a len cap zs _ (unhide HD4).rd).mono ?_
    rintro e w5 ⟨v3, ds3, rfl, -, -, hR5, ho5⟩
    have HD5 := hide ((unhide HD4).call hR5 ho5)
    have HS5 := hide ((unhide HS4).onlN ho5 (by simp; omega))
    have HO5 := hide ((unhide HO4).onlN ho5 (by simp; omega))
    clear hR5 ho5
    go_wp2_with fail
    refine (off_calls _ a len cap zs 1 4 _ (unhide HD5).rd (by omega) (by omega) (by omega)).mono ?_
    rintro e w6 ⟨k, rfl, hk0, hk1, hR6, ho6⟩
    have HD6 := hide ((unhide HD5).call hR6 ho6)
    have hz1 := (unhide HB1).size
    have HO6 := hide (((unhide HO5).onlN ho6 (by simp; omega)).le (B' := w.heap.size) (by omega))
    have HS6 := hide (((unhide HS5).onlN ho6 (by simp; omega)).le (B' := w.heap.size) (by omega))
    clear hR6 ho6
    go_wp2_with fail
    exact bodyPost_ret (v := .tuple #[vs, v, v3, .int .i64 k]) (by simp [results, Tryz.results5, go_sem]) rfl ⟨vs, ss, v, v3, ds, k, rfl, HS6, HF, hsl, HO6, hds, (unhide HB1).trans ((unhide HD6).only.below (B := w.heap.size) (by simp) hz1)⟩
  | true =>
    obtain ⟨av, cv, hv⟩ := (unhide HO4).form
    obtain ⟨n, hn⟩ : ∃ n, ds.length = n := ⟨_, rfl⟩
    rw [hn] at hv hds
    subst hv
    have HN := hide hn
    have hba : Below w4.heap.size w4 (w4.alloc (.cells #[] 2)) := bel1 _ _
    have HOE := hide (ownR_empty i64E w4 w4.heap.size (Nat.le_refl _))
    have HR := hide ((unhide HO4).keep hba).at
    have HAD := hide (unhide HO4).adG
    have HBA := hide hba
    have hlen0 : ([] : List Int).length + n < 100000000 := by simp; omega
    have hzA : w4.heap.size ≤ (w4.alloc (.cells #[] 2)).heap.size := by simp
    clear hn hba
    go_wp2_with (first
      | (at_builtin; refine appGG (e := i64E) rfl _ _ rfl (unhide HOE) rfl av n cv rfl (unhide HN) (unhide HR) (unhide HAD) hlen0 hzA ?_; intro v5 w5 hown5 hb5; obtain ⟨a5, c5, hv5⟩ := hown5.form; rw [List.nil_append, unhide HN] at hv5; subst hv5; rw [List.nil_append] at hown5; have hn := unhide HN; have hz5 := hb5.size; have HB5 := hide ((unhide HBA).trans hb5); have HO5 := hide (World.ownsRow.alloc hown5 (.cells #[.int .i64 7] 2)); have HR5 := hide (rowI_one w5 7); have hlen5 : ds.length + 1 < 100000000 := (by omega); have hzB : w4.heap.size ≤ (w5.alloc (.cells #[.int .i64 7] 2)).heap.size := (by simp at hzA hz5 ⊢; omega); have HBX := hide (((unhide HB5).alloc (by simp at hzA hz5 ⊢; omega) (.cells #[.int .i64 7] 2))); clear hb5 hown5 hz5 hzA hn)
      | (at_builtin; refine appGG (e := i64E) (ys := [7]) rfl _ _ rfl (unhide HO5) rfl (some ⟨w5.heap.size, 0, none⟩) 1 1 rfl rfl (unhide HR5) (.inr ⟨_, rfl⟩) hlen5 hzB ?_; intro v6 w6 hown6 hb6; obtain ⟨a6, c6, hv6⟩ := hown6.form; obtain ⟨m6, hm6⟩ : ∃ m6, (ds ++ [7]).length = m6 := ⟨_, rfl⟩; rw [hm6] at hv6; clear hm6; subst hv6))
    have hb46 := (unhide HBX).trans hb6
    have HD6 := hide ((unhide HD4).belowB hb46 (by omega) (by omega))
    have HS6 := hide ((unhide HS4).keep hb46)
    have HO6 := hide ((unhide HO4).keep hb46)
    have hz6 := hb46.size
    clear hb46 hb6 hown6
    refine (off_calls _ a len cap zs 1 4 _ (unhide HD6).rd (by omega) (by omega) (by omega)).mono ?_
    rintro e w7 ⟨k, rfl, hk0, hk1, hR7, ho7⟩
    have HD7 := hide ((unhide HD6).call hR7 ho7)
    have hz1 := (unhide HB1).size
    have HO7 := hide (((unhide HO6).onlN ho7 (by simp; omega)).le (B' := w.heap.size) (by omega))
    have HS7 := hide (((unhide HS6).onlN ho7 (by simp; omega)).le (B' := w.heap.size) (by omega))
    clear hR7 ho7
    go_wp2_with fail
    refine bodyPost_ret (v := .tuple #[vs, .slice av n cv, .slice a6 m6 c6, .int .i64 k]) (by simp [results, Tryz.results5, go_sem]) rfl ⟨vs, ss, .slice av n cv, _, ds, k, rfl, HS7, HF, hsl, HO7, by have := unhide HN; omega, (unhide HB1).trans ((unhide HD7).only.below (B := w.heap.size) (by simp) hz1)⟩
end Go.Proofs.YtdmkephnpmglkaaGreatDoor

