/- What is drawn to be read as a manifest: short texts. -/
import Derived.Test.YtkeindhefiaghaaDrawO
import Derived.Test.YtkeindhefiaghaaManX
import Derived.Test.YtkeindhefiaghaaBlob
namespace Go.Proofs.Ytkeindhefiaghaa
open Go.RowKit Plain
set_option linter.unusedVariables false

theorem stepRs {ops : Array Oper} {o : Oper} {a : Act} {K : Act → World → Prop} {Q : Exit → Act → World → Prop} {F : Prop} (hgd : o.guard = none) (s x : Operand)
    (ho : o.op = .call { callee := .builtin .append, args := #[s, x], argTypes := #[24, 24] })
    {w : World} {B : Nat} {v : Value} {xs ys : List ByteArray} (hown : OwnR strE w B v xs) (hs : a.eval s = v) (ad : Option Addr) (m c : Nat) (hx : a.eval x = .slice ad m c) (hy : ys.length = m) (hr : StrsAt w ad ys) (had : ∃ g o, ad = some ⟨g, o, none⟩)
    (hlen : xs.length + m < 100000000) (hB : B ≤ w.heap.size)
    (h : ∀ v' w', OwnR strE w' B v' (xs ++ ys) → w.grownBy w' v.ownBlock → K (a.put o.dst v') w') :
    if Region.wanted o (yielded ops a.tmps) = true then Oper.wp Try.prog o a w K Q else F := by
  rw [if_pos (by simp [Region.wanted, hgd])]
  obtain ⟨i0, hi, hz0, hz1, hz2⟩ := info_parts strE.hinfo
  subst hy
  obtain ⟨gx, ox, rfl⟩ := had
  refine wp_append_own _ s x 24 ho B 9 i0 strE.zero 1 16 Try.underlying24 hi hz0 hz1 hz2 rfl (by decide) v xs.length (xs.flatMap strE.enc) hs hown
    ⟨gx, ox, none⟩ ys.length c (ys.map Value.string) hx (by rw [List.length_map, Nat.mul_one]) ?_ ?_ (by unfold maxLen; omega) (by omega) hB ?_
  · intro j u hj
    rw [List.getElem?_map] at hj
    obtain ⟨y, hy, rfl⟩ := Option.map_eq_some_iff.1 hj
    obtain ⟨hj2, rfl⟩ := List.getElem?_eq_some_iff.1 hy
    obtain ⟨g', o', e, hl, hc⟩ := hr j hj2
    cases e
    rw [show (⟨gx, ox, none⟩ : Addr).add j = ⟨gx, ox + j, none⟩ from by unfold Addr.add; split <;> simp_all]
    exact hc
  · intro u hu
    obtain ⟨y, _, rfl⟩ := List.mem_map.1 hu
    rfl
  · intro v' w' h1 h2 _
    refine h v' w' ?_ h2
    unfold OwnR
    rw [List.flatMap_append, List.length_append, flat_str ys]
    exact h1

theorem own_form {w : World} {B : Nat} {v : Value} {ls : List ByteArray} (h : OwnR strE w B v ls) (hpos : 0 < ls.length) : ∃ g c, v = .slice (some ⟨g, 0, none⟩) ls.length c := by
  obtain ⟨g, c, e, _⟩ := World.ownsRow.form h hpos
  exact ⟨g, c, e⟩
theorem own_kept {w w' : World} {B : Nat} {v : Value} {ls : List ByteArray} {row : Option Nat} (h : OwnR strE w B v ls) (hg : w.grownBy w' row) (hne : ∀ k, v.ownBlock = some k → some k ≠ row) : OwnR strE w' B v ls := by
  refine World.ownsRow.kept h hg ?_
  cases hv : v.ownBlock with
  | none => exact .inl rfl
  | some k => exact .inr (hne k hv)
theorem lit1 (w : World) (B : Nat) (x : ByteArray) (hB : B ≤ w.heap.size) : OwnR strE (w.alloc (.cells #[.string x] 9)) B (.slice (some ⟨w.heap.size, 0, none⟩) 1 1) [x] := World.ownsRow_lit w #[.string x] 1 hB (by unfold maxLen; omega) rfl
def Plain.lenV (v : Value) : Nat := match v with
  | .slice _ n _ => n
  | _ => 0

set_option maxRecDepth 10000 in
set_option maxHeartbeats 8000000 in
theorem DrawReadManifest_calls (a : Option Addr) (len cap : Nat) (zs : List Int) (w : World) (h : IsRow .u8 w a len cap zs) (hl : len ≤ 1048576) :
    Calls Try.prog 24 #[.slice a len cap] w fun e w' => ∃ s : ByteArray, e = .returned (.string s) ∧ s.size ≤ 400000 ∧ Below w.heap.size w w' := by
  have H := hide h
  clear h
  go_enter Try.func24, Try.ntmps24
  go_wp2_with fail
  refine (open_calls a len cap zs _ (unhide H) hl).mono ?_
  rintro e w1 ⟨rfl, hR1, hb1⟩
  have HB1 := hide hb1
  have hlt1 := hR1.lt
  have HD1 := hide (DS.start hR1)
  clear hR1 hb1
  go_wp2_with fail
  refine (manifest_calls w.heap.size a len cap zs _ (unhide HD1).rd).mono ?_
  rintro e w2 ⟨c, v, ls, rfl, hma, hR2, ho2⟩
  obtain ⟨hO2, hc2, hl2, hs2⟩ := unhide hma
  obtain ⟨av, cv, hv⟩ := hO2.form
  subst hv
  have HD2 := hide ((unhide HD1).call hR2 ho2)
  have HS2 := hide hO2.at.strs
  have HSZ := hide hs2
  have hz2 := ho2.size
  clear hR2 ho2 HD1 hma hO2 hs2
  go_wp2_with fail
  refine (spec_WriteManifest c av ls.length cv ls _ (by omega) rfl (by omega) (fun l hl => by have := unhide HSZ l hl; omega) (unhide HS2)).mono ?_
  rintro e w3 ⟨rfl, hb3⟩
  have HD3 := hide ((unhide HD2).below hb3)
  have hmz := manS_size c ls
  have hml := man_lines c ls
  have hz3 := hb3.size
  generalize manS c ls = t at hmz hml
  clear hb3 HD2 HS2 HSZ
  go_wp2_with fail
  refine (l3Cut_calls t 10 _ (by omega) (by decide)).mono ?_
  rintro e w4 ⟨v4, rfl, hO4, hb4⟩
  have HD4 := hide ((unhide HD3).below hb4)
  have hsm := cutB_small t
  have hcn := cutB_ne t
  generalize cutB 10 t = ps at hO4 hsm hcn hml
  obtain ⟨n, hn⟩ : ∃ n, ps.length = n := ⟨_, rfl⟩
  have hn1 : 1 ≤ n := by have := List.length_pos_iff.2 hcn; omega
  have hn60 : n ≤ 64 := by omega
  obtain ⟨g, cl, e4, hgb, -⟩ := World.ownsRow.form hO4 (by omega)
  have e5 : v4 = .slice (some ⟨g, 0, none⟩) n cl := by rw [e4, hn]
  subst e5
  have HO4 := hide (hO4.le (B' := w1.heap.size) (by omega))
  have HP4 := hide (show ps.length = n ∧ ∀ p ∈ ps, p.size ≤ 5000 from ⟨hn, fun p hp => by have := hsm p hp; omega⟩)
  clear hb4 hO4 HD3 hsm hcn e4 hgb hn
  go_wp2_with fail
  refine (below_calls w.heap.size a len cap zs n _ (unhide HD4).rd (by omega) (by omega)).mono ?_
  rintro e w5 ⟨i, rfl, hi0, hi1, hR5, ho5⟩
  obtain ⟨K, rfl⟩ := Int.eq_ofNat_of_zero_le hi0
  have HD5 := hide ((unhide HD4).call hR5 ho5)
  have HO5 := hide ((unhide HO4).only ho5 (by simp; omega))
  clear hR5 ho5 HD4 HO4
  go_wp2_with fail
  refine (below_calls w.heap.size a len cap zs 8 _ (unhide HD5).rd (by omega) (by omega)).mono ?_
  rintro e w6 ⟨u, rfl, hu0, hu1, hR6, ho6⟩
  have HD6 := hide ((unhide HD5).call hR6 ho6)
  have HO6 := hide ((unhide HO5).only ho6 (by simp; omega))
  have hg := (World.ownsRow.lt (unhide HO6) g rfl).1
  have hK : K < n := by omega
  have hcl : n ≤ cl ∧ cl ≤ 9223372036854775807 := by
    rcases (unhide HO6).2 with ⟨e, _⟩ | ⟨g', cap', cur, e, hb, hc, h1, h2, h3, h4⟩
    · simp at e
    · simp only [Value.slice.injEq, Option.some.injEq, Addr.mk.injEq, and_true] at e
      obtain ⟨-, -, rfl⟩ := e
      rw [(unhide HP4).1] at h1
      exact ⟨h1, h2⟩
  clear hR6 ho6 HD5 HO5
  by_cases c0 : u = 0
  · subst c0
    obtain ⟨g', e', l', r', f'⟩ := (unhide HO6).at.str K (by rw [(unhide HP4).1]; exact hK)
    obtain rfl : g = g' := by simpa using e'
    generalize ps[K]'(by rw [(unhide HP4).1]; exact hK) = y at r'
    have HO7 := hide ((unhide HO6).setS (k := K) (unhide HP4).1 ⟨#[108, 97, 121, 101, 114]⟩)
    have HD7 := hide ((unhide HD6).set (b := g) (i := K) hlt1 hg (.string ⟨#[108, 97, 121, 101, 114]⟩))
    have HP7 := hide (show (ps.set K ⟨#[108, 97, 121, 101, 114]⟩).length = n ∧ ∀ p ∈ ps.set K ⟨#[108, 97, 121, 101, 114]⟩, p.size ≤ 5000 from ⟨by rw [List.length_set, (unhide HP4).1], fun p hp => by
      rcases List.mem_or_eq_of_mem_set hp with h | h
      · exact (unhide HP4).2 p h
      · rw [h]; decide⟩)
    clear HO6 HD6 HP4 e'
    generalize ps.set K ⟨#[108, 97, 121, 101, 114]⟩ = ps at HO7 HP7
    go_wp2_with fail
    have HROW := hide (unhide HO7).at
    have zn : (⟨#[10]⟩ : ByteArray).size = 1 := rfl
    go_loop [6, 7] (fun t i => ∃ (k : Nat) (x : ByteArray), t = .string x ∧ i = .int .i64 k ∧ k ≤ n ∧ x.size ≤ k * 5001) (fun _ i => n - (intOf i).toNat)
    case atStart => exact ⟨0, ⟨#[]⟩, rfl, rfl, by omega, by decide⟩
    case round =>
      obtain ⟨k, x, rfl, rfl, hk, hx⟩ := hrel
      by_cases hkn : k < n
      · obtain ⟨gg, ee, ll, pp, -⟩ := (unhide HROW).str k (by rw [(unhide HP7).1]; exact hkn)
        have hy := (unhide HP7).2 (ps[k]'(by rw [(unhide HP7).1]; exact hkn)) (by simp)
        generalize ps[k]'(by rw [(unhide HP7).1]; exact hkn) = y at pp hy
        have hgg : g = gg := by simpa using ee
        subst hgg
        have i0 : (0 : Int) ≤ (k : Int) := by omega
        have i1 : (k : Int) < (n : Int) := by omega
        by_cases hk0 : k = 0
        · subst hk0
          go_wp2_with fail
          go_round
          case rel => exact ⟨1, _, rfl, by go_num, by omega, by rw [ByteArray.size_append]; omega⟩
          case measure => first | (simp [intOf]; done) | (simp [intOf]; omega)
        · have hk1 : (0 : Int) < (k : Int) := by omega
          go_wp2_with fail
          go_round
          case rel => exact ⟨k + 1, _, rfl, by go_num, by omega, by rw [ByteArray.size_append, ByteArray.size_append, zn]; omega⟩
          case measure => simp [intOf]; omega
      · go_wp2_with fail
        go_ret
        exact ⟨x, rfl, by omega, (unhide HB1).trans ((unhide HD7).only.below (Nat.le_refl _) (unhide HB1).size)⟩
  · have b0 : (u == 0) = false := by simpa using c0
    by_cases c1 : u = 1
    · subst c1
      go_wp2_with fail
      refine (oddDigest_calls w.heap.size a len cap zs _ (unhide HD6).rd).mono ?_
      rintro e w7 ⟨d, rfl, hd, hR7, ho7⟩
      have HDx := hide ((unhide HD6).call hR7 ho7)
      have HOx := hide ((unhide HO6).only ho7 (by simp; omega))
      clear hR7 ho7 HD6 HO6
      obtain ⟨g', e', l', r', f'⟩ := (unhide HOx).at.str K (by rw [(unhide HP4).1]; exact hK)
      obtain rfl : g = g' := by simpa using e'
      generalize ps[K]'(by rw [(unhide HP4).1]; exact hK) = y at r'
      obtain ⟨x, hx⟩ : ∃ x : ByteArray, ⟨#[99, 111, 110, 102, 105, 103, 32]⟩ ++ d = x := ⟨_, rfl⟩
      have hxz : x.size ≤ 5000 := by rw [← hx, ByteArray.size_append, show (⟨#[99, 111, 110, 102, 105, 103, 32]⟩ : ByteArray).size = 7 from rfl]; omega
      have zc : (⟨#[99, 111, 110, 102, 105, 103, 32]⟩ : ByteArray).size = 7 := rfl
      have HO7 := hide ((unhide HOx).setS (k := K) (unhide HP4).1 x)
      have HD7 := hide ((unhide HDx).set (b := g) (i := K) hlt1 hg (.string x))
      have HP7 := hide (show (ps.set K x).length = n ∧ ∀ p ∈ ps.set K x, p.size ≤ 5000 from ⟨by rw [List.length_set, (unhide HP4).1], fun p hp => by
        rcases List.mem_or_eq_of_mem_set hp with h | h
        · exact (unhide HP4).2 p h
        · rw [h]; exact hxz⟩)
      clear HDx HOx HP4 e' hxz
      generalize ps.set K x = ps at HO7 HP7
      subst hx
      go_wp2_with fail
      have HROW := hide (unhide HO7).at
      have zn : (⟨#[10]⟩ : ByteArray).size = 1 := rfl
      go_loop [6, 7] (fun t i => ∃ (k : Nat) (x : ByteArray), t = .string x ∧ i = .int .i64 k ∧ k ≤ n ∧ x.size ≤ k * 5001) (fun _ i => n - (intOf i).toNat)
      case atStart => exact ⟨0, ⟨#[]⟩, rfl, rfl, by omega, by decide⟩
      case round =>
        obtain ⟨k, x, rfl, rfl, hk, hx⟩ := hrel
        by_cases hkn : k < n
        · obtain ⟨gg, ee, ll, pp, -⟩ := (unhide HROW).str k (by rw [(unhide HP7).1]; exact hkn)
          have hy := (unhide HP7).2 (ps[k]'(by rw [(unhide HP7).1]; exact hkn)) (by simp)
          generalize ps[k]'(by rw [(unhide HP7).1]; exact hkn) = y at pp hy
          have hgg : g = gg := by simpa using ee
          subst hgg
          have i0 : (0 : Int) ≤ (k : Int) := by omega
          have i1 : (k : Int) < (n : Int) := by omega
          by_cases hk0 : k = 0
          · subst hk0
            go_wp2_with fail
            go_round
            case rel => exact ⟨1, _, rfl, by go_num, by omega, by rw [ByteArray.size_append]; omega⟩
            case measure => first | (simp [intOf]; done) | (simp [intOf]; omega)
          · have hk1 : (0 : Int) < (k : Int) := by omega
            go_wp2_with fail
            go_round
            case rel => exact ⟨k + 1, _, rfl, by go_num, by omega, by rw [ByteArray.size_append, ByteArray.size_append, zn]; omega⟩
            case measure => simp [intOf]; omega
        · go_wp2_with fail
          go_ret
          exact ⟨x, rfl, by omega, (unhide HB1).trans ((unhide HD7).only.below (Nat.le_refl _) (unhide HB1).size)⟩
    · have b1 : (u == 1) = false := by simpa using c1
      by_cases c2 : u = 2
      · subst c2
        have HO7 := hide ((unhide HO6).cut (m := K) (unhide HP4).1 (by omega))
        have HP7 := hide (show (ps.take K).length = K ∧ ∀ p ∈ ps.take K, p.size ≤ 5000 from ⟨by rw [List.length_take, (unhide HP4).1]; omega, fun p hp => (unhide HP4).2 p (List.mem_of_mem_take hp)⟩)
        generalize ps.take K = qs at HO7 HP7
        have hK2 : (K : Int) ≤ (cl : Int) := by omega
        clear HO6 HP4
        go_wp2_with fail
        have HROW := hide (unhide HO7).at
        have zn : (⟨#[10]⟩ : ByteArray).size = 1 := rfl
        go_loop [6, 7] (fun t i => ∃ (k : Nat) (x : ByteArray), t = .string x ∧ i = .int .i64 k ∧ k ≤ K ∧ x.size ≤ k * 5001) (fun _ i => K - (intOf i).toNat)
        case atStart => exact ⟨0, ⟨#[]⟩, rfl, rfl, by omega, by decide⟩
        case round =>
          obtain ⟨k, x, rfl, rfl, hk, hx⟩ := hrel
          by_cases hkn : k < K
          · obtain ⟨gg, ee, ll, pp, -⟩ := (unhide HROW).str k (by rw [(unhide HP7).1]; exact hkn)
            have hy := (unhide HP7).2 (qs[k]'(by rw [(unhide HP7).1]; exact hkn)) (by simp)
            generalize qs[k]'(by rw [(unhide HP7).1]; exact hkn) = y at pp hy
            have hgg : g = gg := by simpa using ee
            subst hgg
            have i0 : (0 : Int) ≤ (k : Int) := by omega
            have i1 : (k : Int) < (K : Int) := by omega
            by_cases hk0 : k = 0
            · subst hk0
              go_wp2_with fail
              go_round
              case rel => exact ⟨1, _, rfl, by go_num, by omega, by rw [ByteArray.size_append]; omega⟩
              case measure => first | (simp [intOf]; done) | (simp [intOf]; omega)
            · have hk1 : (0 : Int) < (k : Int) := by omega
              go_wp2_with fail
              go_round
              case rel => exact ⟨k + 1, _, rfl, by go_num, by omega, by rw [ByteArray.size_append, ByteArray.size_append, zn]; omega⟩
              case measure => simp [intOf]; omega
          · go_wp2_with fail
            go_ret
            exact ⟨x, rfl, by omega, (unhide HB1).trans ((unhide HD6).only.below (Nat.le_refl _) (unhide HB1).size)⟩
      · have b2 : (u == 2) = false := by simpa using c2
        by_cases c3 : u = 3
        · subst c3
          go_wp2_with fail
          have zl : (⟨#[108, 97, 121, 101, 114, 32]⟩ : ByteArray).size = 6 := rfl
          go_loopw [4] (fun lv wr => ∃ (n3 c3 g3 : Nat) (qs : List ByteArray), lv = .slice (some ⟨g3, 0, none⟩) n3 c3 ∧ 1 ≤ n3 ∧ n3 ≤ 64 ∧ Hid (qs.length = n3 ∧ ∀ p ∈ qs, p.size ≤ 5000) ∧ Hid (OwnR strE wr w1.heap.size (.slice (some ⟨g3, 0, none⟩) n3 c3) qs) ∧ Hid (DS w1 w.heap.size a len cap zs wr)) (fun lv _ => 100 - lenV lv)
          case atStart => exact ⟨n, cl, g, ps, rfl, hn1, hn60, HP4, HO6, HD6⟩
          case round =>
            clear HO6 HD6 HP4 hcl hg hK
            obtain ⟨n3, c3, g3, qs, rfl, h31, h36, HP, HO, HD⟩ := hrel
            have hg3 := (World.ownsRow.lt (unhide HO) g3 rfl)
            go_wp2_with fail
            refine (below_calls w.heap.size a len cap zs 3 _ (unhide HD).rd (by omega) (by omega)).mono ?_
            rintro e w7 ⟨b, rfl, hb0, hb1, hR7, ho7⟩
            have HD7 := hide ((unhide HD).call hR7 ho7)
            have HO7 := hide ((unhide HO).only ho7 (by simp; omega))
            obtain ⟨L, hL⟩ : ∃ L : Nat, 41 + b = (L : Int) := ⟨(41 + b).toNat, by omega⟩
            have hL2 : L ≤ 43 := by omega
            clear hR7 ho7 HD HO
            by_cases hc : (n3 : Int) < (L : Int)
            · have hcl3 : n3 ≤ c3 ∧ c3 ≤ 9223372036854775807 := by
                rcases (unhide HO7).2 with ⟨e, _⟩ | ⟨g', cap', cur, e, hb, hc, h1, h2, h3, h4⟩
                · simp at e
                · simp only [Value.slice.injEq, Option.some.injEq, Addr.mk.injEq, and_true] at e
                  obtain ⟨-, -, rfl⟩ := e
                  rw [(unhide HP).1] at h1
                  exact ⟨h1, h2⟩
              have hz7 : w1.heap.size ≤ w7.heap.size := (unhide HD7).only.size
              have hg7 : g3 < w7.heap.size := (World.ownsRow.lt (unhide HO7) g3 rfl).2
              obtain ⟨AD, hAD, hAD2⟩ : ∃ AD, (if c3 = 1 then some (⟨g3, 0, none⟩ : Addr) else some ⟨g3, 1, none⟩) = AD ∧ (AD = some ⟨g3, 0, none⟩ ∧ n3 = 1 ∨ AD = some ⟨g3, 1, none⟩) := by
                by_cases h : c3 = 1
                · exact ⟨_, if_pos h, .inl ⟨rfl, by omega⟩⟩
                · exact ⟨_, if_neg h, .inr rfl⟩
              have HTL := hide (fun (W : World) (hW : StrsAt W (some ⟨g3, 0, none⟩) qs) => show StrsAt W AD (qs.drop 1) from by
                intro i hi
                rw [List.length_drop, (unhide HP).1] at hi
                rcases hAD2 with ⟨_, h⟩ | h
                · omega
                · obtain ⟨g', o', e', l', p'⟩ := hW (i + 1) (by rw [(unhide HP).1]; omega)
                  cases e'
                  refine ⟨g3, 1, h, l', ?_⟩
                  rw [List.getElem_drop]
                  rw [show 0 + (i + 1) = 1 + i from by omega] at p'
                  simpa [Nat.add_comm] using p')
              have HHD := hide (fun (W : World) (hW : StrsAt W (some ⟨g3, 0, none⟩) qs) => show StrsAt W (some ⟨g3, 0, none⟩) (qs.take 1) from by
                intro i hi
                rw [List.length_take] at hi
                obtain ⟨g', o', e', l', p'⟩ := hW i (by omega)
                exact ⟨g', o', e', l', by rw [List.getElem_take]; exact p'⟩)
              have hADs : ∃ g o, AD = some ⟨g, o, none⟩ := by rcases hAD2 with ⟨h, _⟩ | h; exact ⟨_, _, h⟩; exact ⟨_, _, h⟩
              have HADS := hide hADs
              have HL1 := hide (show (qs.take 1).length = 1 from by rw [List.length_take, (unhide HP).1]; omega)
              have HL2 := hide (show (qs.drop 1).length = n3 - 1 from by rw [List.length_drop, (unhide HP).1])
              have HE := hide ((ownR_empty strE w7 w1.heap.size hz7).drewN 1)
              have hbE : Below w7.heap.size w7 (w7.alloc (.cells #[] 9)).drew := belDrew (bel1 _ _)
              have HBE := hide hbE
              have HDE := hide ((unhide HD7).below hbE)
              have HOE := hide ((unhide HO7).keep hbE)
              have j1 : (1 : Int) ≤ (c3 : Int) := by omega
              have j2 : (1 : Int) ≤ (n3 : Int) := by omega
              clear hAD2 hADs hbE
              go_wp2_with fail
              go_region_law (first
                | (refine stepRs rfl (.tmp 46) (.tmp 48) rfl (unhide HE) (by simp [Act.eval]) (some ⟨g3, 0, none⟩) 1 c3 (by simp [Act.eval]) (unhide HL1) (unhide HHD _ (unhide HOE).at.strs) ⟨_, _, rfl⟩ (by simp) (by simp; omega) ?_; intro v1 w8 hown8 hgr8; have HD8 := hide ((unhide HDE).belowB (own_below (unhide HE) hgr8 (by simp; omega)) hlt1 (Nat.le_refl _)); have HO8 := hide (show OwnR strE w8 w1.heap.size (.slice (some ⟨g3, 0, none⟩) n3 c3) qs from World.ownsRow.kept (unhide HOE) hgr8 (.inr (by simp [Value.ownBlock]; omega))); have HV8 := hide hown8)
                | (refine stepRs rfl (.tmp 53) (.tmp 55) rfl (unhide HX9) (by simp [Act.eval]) AD (n3 - 1) (c3 - 1) (by simp [Act.eval]) (unhide HL2) (unhide HTL _ (unhide HO9a).at.strs) (unhide HADS) (by simp; omega) (by simp; omega) ?_; intro v2 w10 hown10 hgr10; obtain ⟨g10, c10, e10⟩ := own_form hown10 (by simp); rw [unhide HL3] at e10; subst e10; have HV10 := hide (own_kept (unhide HV9a) hgr10 (fun k hk => by have := unhide HV9b k hk; simp [Value.ownBlock]; omega)); have HD10 := hide ((unhide HD9a).belowB (own_below (unhide HX9) hgr10 (by simp; omega)) hlt1 (Nat.le_refl _)))
                | (refine stepRs rfl (.tmp 49) (.tmp 56) rfl (unhide HV10) (by simp [Act.eval]) (some ⟨g10, 0, none⟩) n3 c10 (by simp [Act.eval]) (unhide HL3) hown10.at.strs ⟨_, _, rfl⟩ (by simp; omega) (Nat.le_trans hz9 (Nat.le_trans (by simp) hgr10.size)) ?_; intro v3 w11 hown11 hgr11; obtain ⟨g11, c11, e11⟩ := own_form hown11 (by rw [unhide HL4]; omega); rw [unhide HL4] at e11; subst e11; have HD11 := hide ((unhide HD10).belowB (own_below (unhide HV10) hgr11 (Nat.le_trans hz9 (Nat.le_trans (by simp) hgr10.size))) hlt1 (Nat.le_refl _)))
                | (go_simp; refine (digest_calls w.heap.size a len cap zs w8 (unhide HD8).rd).mono ?_; rintro e w9 ⟨d, rfl, hd, hR9, ho9⟩; have HD9 := hide ((unhide HD8).call hR9 ho9); have HO9a := hide ((OwnR.only (unhide HO8) ho9 (by simp; omega)).keep (bel1 w9 (.cells #[.string ((⟨#[108, 97, 121, 101, 114, 32]⟩ : ByteArray) ++ d)] 9))); have HV9 := hide (OwnR.only (unhide HV8) ho9 (by simp; omega)); have HV9a := hide ((unhide HV9).keep (bel1 w9 (.cells #[.string ((⟨#[108, 97, 121, 101, 114, 32]⟩ : ByteArray) ++ d)] 9))); have HV9b := hide (fun k hk => (World.ownsRow.lt (unhide HV9) k hk).2); have hz9 : w1.heap.size ≤ w9.heap.size := (unhide HD9).only.size; have HD9a := hide ((unhide HD9).alloc (.cells #[.string ((⟨#[108, 97, 121, 101, 114, 32]⟩ : ByteArray) ++ d)] 9)); have HX9 := hide (lit1 w9 w1.heap.size ((⟨#[108, 97, 121, 101, 114, 32]⟩ : ByteArray) ++ d) hz9); have HL3 := hide (show ([((⟨#[108, 97, 121, 101, 114, 32]⟩ : ByteArray) ++ d : ByteArray)] ++ qs.drop 1).length = n3 from by rw [List.length_append, unhide HL2]; simp; omega); have HL4 := hide (show (([] ++ qs.take 1) ++ ([((⟨#[108, 97, 121, 101, 114, 32]⟩ : ByteArray) ++ d : ByteArray)] ++ qs.drop 1)).length = n3 + 1 from by rw [List.length_append, unhide HL3, List.nil_append, unhide HL1]; omega); have hxz : ((⟨#[108, 97, 121, 101, 114, 32]⟩ : ByteArray) ++ d : ByteArray).size ≤ 5000 := by rw [ByteArray.size_append, zl]; omega))
              all_goals (try go_wp2_with fail)
              refine ⟨?_, ?_⟩
              · have hsz : ∀ p ∈ ([] ++ qs.take 1) ++ ([(⟨#[108, 97, 121, 101, 114, 32]⟩ : ByteArray) ++ d] ++ qs.drop 1), p.size ≤ 5000 := by
                  intro p hp
                  rw [List.mem_append, List.nil_append, List.mem_append, List.mem_singleton] at hp
                  rcases hp with hp | hp | hp
                  · exact (unhide HP).2 p (List.mem_of_mem_take hp)
                  · rw [hp]; exact hxz
                  · exact (unhide HP).2 p (List.mem_of_mem_drop hp)
                repeat apply Exists.intro
                exact ⟨⟨n3 + 1, c11, g11, _, rfl, by omega, by omega, hide ⟨unhide HL4, hsz⟩, hide hown11, HD11⟩, rfl⟩
              · show 100 - lenV (.slice (some ⟨g11, 0, none⟩) (n3 + 1) c11) < 100 - lenV (.slice (some ⟨g3, 0, none⟩) n3 c3)
                simp only [lenV]
                omega
            · have HO8 := HO7
              go_wp2_with fail
              have HROW := hide (unhide HO7).at
              have zn : (⟨#[10]⟩ : ByteArray).size = 1 := rfl
              go_loop [6, 7] (fun t i => ∃ (k : Nat) (x : ByteArray), t = .string x ∧ i = .int .i64 k ∧ k ≤ n3 ∧ x.size ≤ k * 5001) (fun _ i => n3 - (intOf i).toNat)
              case atStart => exact ⟨0, ⟨#[]⟩, rfl, rfl, by omega, by decide⟩
              case round =>
                obtain ⟨k, x, rfl, rfl, hk, hx⟩ := hrel
                by_cases hkn : k < n3
                · obtain ⟨gg, ee, ll, pp, -⟩ := (unhide HROW).str k (by rw [(unhide HP).1]; exact hkn)
                  have hy := (unhide HP).2 (qs[k]'(by rw [(unhide HP).1]; exact hkn)) (by simp)
                  generalize qs[k]'(by rw [(unhide HP).1]; exact hkn) = y at pp hy
                  have hgg : g3 = gg := by simpa using ee
                  subst hgg
                  have i0 : (0 : Int) ≤ (k : Int) := by omega
                  have i1 : (k : Int) < (n3 : Int) := by omega
                  by_cases hk0 : k = 0
                  · subst hk0
                    go_wp2_with fail
                    go_round
                    case rel => exact ⟨1, _, rfl, by go_num, by omega, by rw [ByteArray.size_append]; omega⟩
                    case measure => first | (simp [intOf]; done) | (simp [intOf]; omega)
                  · have hk1 : (0 : Int) < (k : Int) := by omega
                    go_wp2_with fail
                    go_round
                    case rel => exact ⟨k + 1, _, rfl, by go_num, by omega, by rw [ByteArray.size_append, ByteArray.size_append, zn]; omega⟩
                    case measure => simp [intOf]; omega
                · go_wp2_with fail
                  go_ret
                  exact ⟨x, rfl, by omega, (unhide HB1).trans ((unhide HD7).only.below (Nat.le_refl _) (unhide HB1).size)⟩
        · have b3 : (u == 3) = false := by simpa using c3
          by_cases c4 : u = 4
          · subst c4
            obtain ⟨g', e', l', r', f'⟩ := (unhide HO6).at.str 0 (by rw [(unhide HP4).1]; exact hn1)
            obtain rfl : g = g' := by simpa using e'
            have hy := (unhide HP4).2 (ps[0]'(by rw [(unhide HP4).1]; exact hn1)) (by simp)
            generalize ps[0]'(by rw [(unhide HP4).1]; exact hn1) = y at r' hy
            have HO7 := hide (show OwnR strE (w6.alloc (.cells #[.string y, .string ⟨#[]⟩] 9)) w6.heap.size (.slice (some ⟨w6.heap.size, 0, none⟩) 2 2) [y, ⟨#[]⟩] from World.ownsRow_lit w6 #[.string y, .string ⟨#[]⟩] 2 (Nat.le_refl _) (by unfold maxLen; omega) rfl)
            have HD7 := hide ((unhide HD6).alloc (.cells #[.string y, .string ⟨#[]⟩] 9))
            have HP7 := hide (show [y, (⟨#[]⟩ : ByteArray)].length = 2 ∧ ∀ p ∈ [y, (⟨#[]⟩ : ByteArray)], p.size ≤ 5000 from ⟨rfl, fun p hp => by
              rcases List.mem_cons.1 hp with h | h
              · rw [h]; exact hy
              · obtain rfl := List.mem_singleton.1 h; decide⟩)
            have hn0 : (0 : Int) < (n : Int) := by omega
            generalize [y, (⟨#[]⟩ : ByteArray)] = qs at HO7 HP7
            clear HO6 HP4 HD6
            go_wp2_with fail
            have HROW := hide (unhide HO7).at
            have zn : (⟨#[10]⟩ : ByteArray).size = 1 := rfl
            go_loop [6, 7] (fun t i => ∃ (k : Nat) (x : ByteArray), t = .string x ∧ i = .int .i64 k ∧ k ≤ 2 ∧ x.size ≤ k * 5001) (fun _ i => 2 - (intOf i).toNat)
            case atStart => exact ⟨0, ⟨#[]⟩, rfl, rfl, by omega, by decide⟩
            case round =>
              obtain ⟨k, x, rfl, rfl, hk, hx⟩ := hrel
              by_cases hkn : k < 2
              · obtain ⟨gg, ee, ll, pp, -⟩ := (unhide HROW).str k (by rw [(unhide HP7).1]; exact hkn)
                have hy := (unhide HP7).2 (qs[k]'(by rw [(unhide HP7).1]; exact hkn)) (by simp)
                generalize qs[k]'(by rw [(unhide HP7).1]; exact hkn) = y at pp hy
                have hgg : w6.heap.size = gg := by simpa using ee
                subst hgg
                have i0 : (0 : Int) ≤ (k : Int) := by omega
                have i1 : (k : Int) < 2 := by omega
                by_cases hk0 : k = 0
                · subst hk0
                  go_wp2_with fail
                  go_round
                  case rel => exact ⟨1, _, rfl, by go_num, by omega, by rw [ByteArray.size_append]; omega⟩
                  case measure => first | (simp [intOf]; done) | (simp [intOf]; omega)
                · have hk1 : (0 : Int) < (k : Int) := by omega
                  go_wp2_with fail
                  go_round
                  case rel => exact ⟨k + 1, _, rfl, by go_num, by omega, by rw [ByteArray.size_append, ByteArray.size_append, zn]; omega⟩
                  case measure => simp [intOf]; omega
              · go_wp2_with fail
                go_ret
                exact ⟨x, rfl, by omega, (unhide HB1).trans ((unhide HD7).only.below (Nat.le_refl _) (unhide HB1).size)⟩
          · have b4 : (u == 4) = false := by simpa using c4
            go_wp2_with fail
            have HROW := hide (unhide HO6).at
            have zn : (⟨#[10]⟩ : ByteArray).size = 1 := rfl
            go_loop [6, 7] (fun t i => ∃ (k : Nat) (x : ByteArray), t = .string x ∧ i = .int .i64 k ∧ k ≤ n ∧ x.size ≤ k * 5001) (fun _ i => n - (intOf i).toNat)
            case atStart => exact ⟨0, ⟨#[]⟩, rfl, rfl, by omega, by decide⟩
            case round =>
              obtain ⟨k, x, rfl, rfl, hk, hx⟩ := hrel
              by_cases hkn : k < n
              · obtain ⟨gg, ee, ll, pp, -⟩ := (unhide HROW).str k (by rw [(unhide HP4).1]; exact hkn)
                have hy := (unhide HP4).2 (ps[k]'(by rw [(unhide HP4).1]; exact hkn)) (by simp)
                generalize ps[k]'(by rw [(unhide HP4).1]; exact hkn) = y at pp hy
                have hgg : g = gg := by simpa using ee
                subst hgg
                have i0 : (0 : Int) ≤ (k : Int) := by omega
                have i1 : (k : Int) < (n : Int) := by omega
                by_cases hk0 : k = 0
                · subst hk0
                  go_wp2_with fail
                  go_round
                  case rel => exact ⟨1, _, rfl, by go_num, by omega, by rw [ByteArray.size_append]; omega⟩
                  case measure => first | (simp [intOf]; done) | (simp [intOf]; omega)
                · have hk1 : (0 : Int) < (k : Int) := by omega
                  go_wp2_with fail
                  go_round
                  case rel => exact ⟨k + 1, _, rfl, by go_num, by omega, by rw [ByteArray.size_append, ByteArray.size_append, zn]; omega⟩
                  case measure => simp [intOf]; omega
              · go_wp2_with fail
                go_ret
                exact ⟨x, rfl, by omega, (unhide HB1).trans ((unhide HD6).only.below (Nat.le_refl _) (unhide HB1).size)⟩
end Go.Proofs.Ytkeindhefiaghaa
