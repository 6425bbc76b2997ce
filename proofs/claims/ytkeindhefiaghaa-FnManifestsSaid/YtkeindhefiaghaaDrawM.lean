/- What is drawn for manifests: right ones and others, in memory of the call's own. -/
import Derived.Test.YtkeindhefiaghaaDrawQ
import Derived.Test.YtkeindhefiaghaaManJ
import Derived.Test.YtkeindhefiaghaaManL
import Derived.Deep.RegionLaw
namespace Go.Proofs.Ytkeindhefiaghaa
open Go.RowKit Plain
set_option linter.unusedVariables false

namespace Plain
theorem OnlyAt.thenBelow {a : Addr} {u v w : World} {B : Nat} (h : OnlyAt a u v) (hb : Below B v w) (hB : u.heap.size ≤ B) : OnlyAt a u w :=
  ⟨hb.os.trans h.os, hb.tape.trans h.tape, hb.output.trans h.output, Nat.le_trans h.size hb.size, fun k hk hne => (hb.block k (by omega)).trans (h.block k hk hne), fun c hc hne => (hb.cell (by omega)).trans (h.cell c hc hne), fun c hc => (hb.frozen (by omega)).trans (h.frozen c hc)⟩
theorem DS.belowB {w W W' : World} {R B : Nat} {a : Option Addr} {len cap : Nat} {zs : List Int} (h : DS w R a len cap zs W) (hb : Below B W W') (hR : R < B) (hB : w.heap.size ≤ B) : DS w R a len cap zs W' := ⟨h.rd.onlyB hb hR, h.only.thenBelow hb hB⟩
theorem DS.drew {w W : World} {R : Nat} {a : Option Addr} {len cap : Nat} {zs : List Int} (h : DS w R a len cap zs W) : DS w R a len cap zs W.drew := h.drewN 1
theorem Mc.only {M R : Nat} {c : ByteArray} {v : Value} {w w' : World} (h : Mc M c v w) (ho : OnlyAt ⟨R, 1, none⟩ w w') (hne : M ≠ R) : Mc M c v w' :=
  ⟨(ho.cell ⟨M, 0, none⟩ h.lt (fun e => hne (congrArg Addr.block e))).trans h.c0, (ho.cell ⟨M, 1, none⟩ h.lt (fun e => hne (congrArg Addr.block e))).trans h.c1, (ho.frozen ⟨M, 0, none⟩ h.lt).trans h.f0, (ho.frozen ⟨M, 1, none⟩ h.lt).trans h.f1, Nat.lt_of_lt_of_le h.lt ho.size⟩
theorem Mc.set1far {M b i : Nat} {c : ByteArray} {v : Value} {w : World} (h : Mc M c v w) (hne : b ≠ M) (x : Value) : Mc M c v (w.setCell ⟨b, i, none⟩ x) :=
  ⟨(World.cell?_setCell_other _ ⟨b, i, none⟩ ⟨M, 0, none⟩ _ (fun e => hne (congrArg Addr.block e))).trans h.c0, (World.cell?_setCell_other _ ⟨b, i, none⟩ ⟨M, 1, none⟩ _ (fun e => hne (congrArg Addr.block e))).trans h.c1, by simpa using h.f0, by simpa using h.f1, by simpa using h.lt⟩
theorem Mc.drewN {M : Nat} {c : ByteArray} {v : Value} {w : World} (h : Mc M c v w) (k : Nat) : Mc M c v (w.drewN k) := ⟨h.c0, h.c1, h.f0, h.f1, h.lt⟩
end Plain

/-- What a drawn manifest is, in memory from block B on. -/
def ManAt (w : World) (B : Nat) (v : Value) (c : ByteArray) (ls : List ByteArray) : Prop := OwnR strE w B v ls ∧ c.size ≤ 100 ∧ ls.length ≤ 50 ∧ ∀ l ∈ ls, l.size ≤ 100

set_option maxRecDepth 10000 in
set_option maxHeartbeats 4000000 in
theorem manifest_calls (R : Nat) (a : Option Addr) (len cap : Nat) (zs : List Int) (w : World) (h : Rd w R a len cap zs) :
    Calls Try.prog 72 #[.pointer (some ⟨R, 0, none⟩)] w fun e w' => ∃ (c : ByteArray) (v : Value) (ls : List ByteArray), e = .returned (.agg #[.string c, v]) ∧ Hid (ManAt w' w.heap.size v c ls) ∧ Rd w' R a len cap zs ∧ OnlyAt ⟨R, 1, none⟩ w w' := by
  have hR := h.lt
  have H := hide ((DS.start h).alloc (.cells #[.string ⟨#[]⟩, .slice none 0 0] 26))
  have HZ := hide (Mc.new w ⟨#[]⟩ (.slice none 0 0) 26)
  clear h
  go_enter Try.func72, Try.ntmps72
  go_wp2_with fail
  refine (digest_calls R a len cap zs _ (unhide H).rd).mono ?_
  rintro e w1 ⟨c, rfl, hc, hR1, ho1⟩
  have hz1 : w.heap.size < w1.heap.size := by have := ho1.size; simp at this; omega
  have hc1 : c.size ≤ 100 := by omega
  have HD := hide (((unhide H).call hR1 ho1).alloc (.cells #[.string c, .slice none 0 0] 26))
  have HZ1 := hide (((unhide HZ).only ho1 (by omega)).below (w' := w1.alloc (.cells #[.string c, .slice none 0 0] 26)) (bel1 _ _) (by omega))
  have HS1 := hide (Mc.new w1 c (.slice none 0 0) 26)
  have HC := hide hc
  clear hR1 ho1 H HZ hc
  go_wp2_with fail
  refine (below_calls R a len cap zs 3 _ (unhide HD).rd (by omega) (by omega)).mono ?_
  rintro e w2 ⟨u, rfl, hu0, hu1, hR2, ho2⟩
  obtain ⟨U, rfl⟩ := Int.eq_ofNat_of_zero_le hu0
  have HD2 := hide ((unhide HD).call hR2 ho2)
  have HZ2 := hide ((unhide HZ1).only ho2 (by omega))
  have HS2 := hide ((unhide HS1).only ho2 (by omega))
  have hU : U < 3 := by omega
  clear hR2 ho2 HD HZ1 HS1 hu0 hu1
  go_wp2_with fail
  go_loopw [4] (fun i wr => ∃ (k : Nat) (v : Value) (ds : List ByteArray), i = .int .i64 k ∧ k + ds.length ≤ 3 ∧ Hid (DS w R a len cap zs wr) ∧ Hid (Mc w.heap.size ⟨#[]⟩ (.slice none 0 0) wr) ∧ Hid (Mc w1.heap.size c v wr) ∧ Hid (OwnR strE wr (w1.heap.size + 1) v ds) ∧ Hid (∀ l ∈ ds, l.size ≤ 100)) (fun i _ => (intOf i).toNat)
  case atStart => exact ⟨U + 1, .slice none 0 0, [], by rw [show ((U + 1 : Nat) : Int) = 1 + (U : Int) from by omega], by simp; omega, HD2, HZ2, HS2, hide (ownR_nil _ _ _), hide (by simp)⟩
  case round =>
    obtain ⟨k, v, ds, rfl, hk, HDr, HZr, HSr, HO, HL⟩ := hrel
    obtain ⟨av, cv, hv⟩ := (unhide HO).form
    subst hv
    by_cases hk0 : 0 < k
    · obtain ⟨k, rfl⟩ : ∃ k', k = k' + 1 := ⟨k - 1, by omega⟩
      obtain ⟨s0, s1, f0, f1, slt⟩ := unhide HSr
      have HDG := hide (digest_calls R a len cap zs wr.drew ((unhide HDr).drew.rd))
      have hRM : R < w1.heap.size + 1 := by omega
      have hk1 : (0 : Int) < ((k + 1 : Nat) : Int) := by omega
      go_wp2_with fail
      go_region_law (first
        | (refine stepR (e := strE) rfl _ _ rfl (w := w3) (unhide HO3) (by simp [Act.eval]) d rfl _ (by simp [Act.eval]) rfl (by omega) hz3 ?_; intro v' w6 hown6 hb6; obtain ⟨av', cv', hv'⟩ := hown6.form; subst hv'; rw [show (ds ++ [d]).length = ds.length + 1 from by simp] at hown6; obtain ⟨z0, z1, x0, x1, zlt⟩ := (unhide HS3).below hb6 (by omega))
        | (go_simp; refine (unhide HDG).mono ?_; rintro e w3 ⟨d, rfl, hd, hR3, ho3⟩; have HO3 := hide (((unhide HO).drewN 1).only ho3 hRM); have HS3 := hide (((unhide HSr).drewN 1).only ho3 (by omega)); have HZ3 := hide (((unhide HZr).drewN 1).only ho3 (by omega)); have HD3 := hide ((unhide HDr).drew.call hR3 ho3); have hz3 : w1.heap.size + 1 ≤ w3.heap.size := (unhide HS3).lt; obtain ⟨t0, t1, y0, y1, tlt⟩ := unhide HS3))
      all_goals (try go_wp2_with fail)
      all_goals exact ⟨⟨k, .slice av' (ds.length + 1) cv', ds ++ [d], by go_num, by simp; omega, hide (((unhide HD3).belowB hb6 (by omega) (by omega)).set (b := w1.heap.size) (i := 1) hR (by omega) _), hide (((unhide HZ3).below hb6 (by omega)).set1far (by omega) _), hide (Mc.set1 ⟨z0, z1, x0, x1, zlt⟩ _), hide (hown6.setLow (p := ⟨w1.heap.size, 1, none⟩) (by simp) _), hide (fun l hl => by rcases List.mem_append.1 hl with h | h; exact unhide HL l h; (obtain rfl := List.mem_singleton.1 h; omega))⟩, by simp [intOf]⟩
    · obtain rfl : k = 0 := by omega
      obtain ⟨s0, s1, f0, f1, slt⟩ := unhide HSr
      obtain ⟨q0, q1, g0, g1, qlt⟩ := unhide HZr
      have hne : w.heap.size ≠ w1.heap.size := by omega
      go_wp2_with fail
      have hfin := ((unhide HDr).set (b := w.heap.size) (i := 0) hR (Nat.le_refl _) (.string c)).set (b := w.heap.size) (i := 1) hR (Nat.le_refl _) (.slice av ds.length cv)
      exact bodyPost_ret (v := .agg #[.string c, .slice av ds.length cv]) (by simp [results, Try.results72, go_sem, q0, q1]) rfl
        ⟨c, .slice av ds.length cv, ds, rfl, hide ⟨((unhide HO).setLow (p := ⟨w.heap.size, 0, none⟩) (by simp; omega) _ |>.setLow (p := ⟨w.heap.size, 1, none⟩) (by simp; omega) _).le (by omega), hc1, by omega, unhide HL⟩, hfin.rd, hfin.only⟩
end Go.Proofs.Ytkeindhefiaghaa
