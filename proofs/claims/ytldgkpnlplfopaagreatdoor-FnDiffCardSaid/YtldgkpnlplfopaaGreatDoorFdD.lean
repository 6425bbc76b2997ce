/- The arguments of Steps, drawn. -/
import Derived.Test.YtldgkpnlplfopaaGreatDoorDzA
import Derived.Test.YtldgkpnlplfopaaGreatDoorQzA
import Derived.Test.YtldgkpnlplfopaaGreatDoorTzA
namespace Go.Proofs.YtldgkpnlplfopaaGreatDoor
open Go.RowKit Plain
set_option linter.unusedVariables false

theorem OwnR.preT {W : World} {B g n c : Nat} {xs : List ByteArray} (h : OwnR strE W B (.slice (some ⟨g, 0, none⟩) n c) xs) (k : Nat) (hk : k ≤ xs.length) : OwnR strE W B (.slice (some ⟨g, 0, none⟩) k c) (xs.take k) := by
  have hfl : ∀ l : List ByteArray, (l.flatMap strE.enc).length = l.length := fun l => by rw [flat_len strE.enc 1 strE.hlen, Nat.mul_one]
  have hft : ∀ (l : List ByteArray) (k : Nat), (l.take k).flatMap strE.enc = (l.flatMap strE.enc).take k := by
    intro l
    induction l with
    | nil => intro k; simp
    | cons x l ih =>
      intro k
      cases k with
      | zero => simp
      | succ k =>
        rw [List.take_succ_cons, List.flatMap_cons, List.flatMap_cons, ih k]
        rfl
  have hlt : (xs.take k).length = k := by rw [List.length_take]; omega
  refine ⟨by rw [hfl]; exact (Nat.mul_one _).symm, .inr ?_⟩
  rcases h.2 with ⟨e, _⟩ | ⟨g', cap, cur, e, hb, hg, hn, hm, hs, ht⟩
  · simp at e
  · obtain ⟨rfl, rfl, rfl⟩ : g = g' ∧ n = xs.length ∧ c = cap := by simpa using e
    refine ⟨g, c, cur, by rw [hlt], hb, hg, by omega, hm, hs, ?_⟩
    have ht' : cur.toList.take (xs.length * 1) = xs.flatMap strE.enc := ht
    show cur.toList.take ((xs.take k).length * 1) = (xs.take k).flatMap strE.enc
    rw [hft, ← ht', List.take_take, hlt]
    congr 1
    omega
theorem stepCut {ops : Array Oper} {o : Oper} {a : Act} {K : Act → World → Prop} {Q : Exit → Act → World → Prop} {F : Prop} (hgd : o.guard = none) (s x : Operand)
    (ho : o.op = .call { callee := .builtin .append, args := #[s, x], argTypes := #[strE.S, strE.S] })
    {w : World} {B : Nat} {v : Value} {xs ys : List ByteArray} (hown : OwnR strE w B v xs) (hs : a.eval s = v) (AD : Addr) (m c : Nat) (hx : a.eval x = .slice (some AD) m c) (hy : ys.length = m) (hr : ∀ j u, (ys.flatMap strE.enc)[j]? = some u → w.cell? (AD.add j) = some u)
    (hlen : xs.length + m < 100000000) (hB : B ≤ w.heap.size)
    (h : ∀ v' w', OwnR strE w' B v' (xs ++ ys) → Below B w w' → w.grownBy w' v.ownBlock → K (a.put o.dst v') w') :
    if Region.wanted o (yielded ops a.tmps) = true then Oper.wp Tryz.prog o a w K Q else F := by
  rw [if_pos (by simp [Region.wanted, hgd])]
  subst hy
  obtain ⟨i0, hi, hz0, hz1, hz2⟩ := info_parts strE.hinfo
  have hby := strE.hb
  refine wp_append_own _ s x strE.S ho B strE.E i0 strE.zero strE.n strE.bytes strE.hund hi hz0 hz1 hz2 strE.hz strE.hn v xs.length (xs.flatMap strE.enc) hs hown
    AD ys.length c (ys.flatMap strE.enc) hx (flat_len strE.enc strE.n strE.hlen ys) hr (fun u hu => by
      obtain ⟨y, _, hy⟩ := List.mem_flatMap.1 hu
      exact strE.hone y u hy) (by unfold maxLen; omega) (Nat.le_trans (Nat.mul_le_mul_left _ hby) (by omega)) hB ?_
  intro v' w' h1 h2 _
  refine h v' w' ?_ (own_below hown h2 hB) h2
  unfold OwnR
  rw [List.flatMap_append, List.length_append]
  exact h1

/-- What the drawer of Steps' arguments answers. -/
def Plain.StpD (w : World) (e : Ending) (w' : World) : Prop := ∃ (v : Value) (ds : List ByteArray) (u : Value) (es : List ByteArray), e = .returned (.tuple #[v, u]) ∧ Hid (OwnR strE w' w.heap.size v ds) ∧ Hid (∀ s ∈ ds, s.size ≤ 100) ∧ ds.length ≤ 200 ∧ Hid (OwnR strE w' w.heap.size u es) ∧ Hid (∀ s ∈ es, s.size ≤ 100) ∧ es.length ≤ 200 ∧ Below w.heap.size w w'

set_option maxRecDepth 10000 in
set_option maxHeartbeats 4000000 in
theorem DrawSteps_calls (a : Option Addr) (len cap : Nat) (zs : List Int) (w : World) (h : IsRow .u8 w a len cap zs) (hl : len ≤ 1048576) :
    Calls Tryz.prog 5 #[.slice a len cap] w (StpD w) := by
  have HOP := hide (open_calls a len cap zs w h hl)
  clear h
  unfold StpD
  go_enter Tryz.func5, Tryz.ntmps5
  go_wp2_with fail
  refine (unhide HOP).mono ?_
  rintro e w1 ⟨rfl, hR1, hb1⟩
  have HB1 := hide hb1
  have hz1 := hb1.size
  have HOS := hide (oddSet_calls _ a len cap zs _ hR1)
  obtain ⟨R, hR⟩ : ∃ R, w.heap.size = R := ⟨_, rfl⟩
  have hRB : w.heap.size ≤ (⟨R, 1, none⟩ : Addr).block := by simp; omega
  have hRl := hR1.lt
  rw [hR] at HOS hR1 hRl
  have HD0 := hide (DS.start hR1)
  clear hb1 hR1 HOP
  try rw [hR]
  go_wp2_with fail
  refine (unhide HOS).mono ?_
  rintro e w2 ⟨v, ds, rfl, HO2, HF, hdl, hR2, ho2⟩
  have HD2 := hide ((unhide HD0).call hR2 ho2)
  obtain ⟨av, cv, hv⟩ := (unhide HO2).form
  obtain ⟨q, hq⟩ : ∃ q, ds.length = q := ⟨_, rfl⟩
  rw [hq] at hv hdl
  subst hv
  have HON := hide (once_calls R a len cap zs 2 w2 (unhide HD2).rd (by omega) (by omega))
  clear hR2 ho2 HOS HD0
  go_wp2_with fail
  refine (unhide HON).mono ?_
  rintro e w3 ⟨b, rfl, hR3, ho3⟩
  have HD3 := hide ((unhide HD2).call hR3 ho3)
  have HO3 := hide ((unhide HO2).onlN ho3 (by simp; omega))
  have hz3 : w1.heap.size ≤ w3.heap.size := (unhide HD3).only.size
  clear hR3 ho3 HON HD2 HO2
  cases b with
  | false =>
    have HOS := hide (oddSet_calls R a len cap zs w3 (unhide HD3).rd)
    go_wp2_with fail
    refine (unhide HOS).mono ?_
    rintro e w4 ⟨v4, es, rfl, HO4, HF4, hel, hR4, ho4⟩
    have HD4 := (unhide HD3).call hR4 ho4
    have HA4 := (unhide HO3).onlN ho4 (by simp; omega)
    obtain ⟨a4, c4, hv4⟩ := (unhide HO4).form
    obtain ⟨q4, hq4⟩ : ∃ q4, es.length = q4 := ⟨_, rfl⟩
    rw [hq4] at hv4 hel
    subst hv4
    go_wp2_with fail
    exact bodyPost_ret (v := .tuple #[.slice av q cv, .slice a4 q4 c4]) (by simp [results, Tryz.results5, go_sem]) rfl ⟨_, ds, _, es, rfl, hide (HA4.le hz1), HF, by omega, hide ((unhide HO4).le (Nat.le_trans hz1 hz3)), HF4, by omega, (unhide HB1).trans (HD4.only.below (B := w.heap.size) hRB hz1)⟩
  | true =>
    have hO0 := ownR_empty strE w3 w1.heap.size hz3
    have hbA : Below w3.heap.size w3 (w3.alloc (.cells #[] 9)) := (Below.refl _ _).alloc (Nat.le_refl _) _
    have HOE := hide hO0
    have HO4 := hide ((unhide HO3).keep hbA)
    have HD4 := hide ((unhide HD3).below hbA)
    have hz4 : w1.heap.size ≤ (w3.alloc (.cells #[] 9)).heap.size := by simp; omega
    have hap0 := ApT.new (unhide HO3) (ownR_empty strE w3 w3.heap.size (Nat.le_refl _)) (Nat.le_refl _)
    have HAP := hide hap0
    by_cases hq0 : 0 < q
    case neg =>
      obtain rfl : q = 0 := by omega
      have hlb : ([] : List ByteArray).length + 0 < 100000000 := by simp
      clear hO0 hbA hap0
      go_wp2_with (at_builtin; refine appAt (e := strE) rfl _ _ rfl (unhide HOE) rfl av 0 cv rfl hq (unhide HO4).at (unhide HO4).adG hlb hz4 ?_; intro v5 w5 hO5 hb5 hg5 hw5; have hoA := keptT (unhide HO4) (unhide HAP).symm hg5; have hapA := (unhide HAP).symm.next (unhide HO4) (Nat.le_refl _) hw5; rw [List.nil_append] at hO5; obtain ⟨a5, c5, hv5⟩ := hO5.form; rw [hq] at hv5; subst hv5)
      have HO5 := hide hO5
      have HA5 := hide hoA
      have HAP5 := hide hapA
      have HD5 := hide ((unhide HD4).belowB hb5 hRl (Nat.le_refl _))
      clear hO5 hb5 hg5 hw5 hoA hapA HO4 HD4 HOE HAP
      exact bodyPost_ret (v := .tuple #[.slice av 0 cv, .slice a5 0 c5]) (by simp [results, Tryz.results5, go_sem]) rfl ⟨_, ds, _, ds, rfl, hide ((unhide HA5).le hz1), HF, by omega, hide ((unhide HO5).le hz1), HF, by omega, (unhide HB1).trans ((unhide HD5).only.below (B := w.heap.size) hRB hz1)⟩
    case pos =>
      have hq1 : (0 : Int) < (q : Int) := by omega
      have hlb : ([] : List ByteArray).length + q < 100000000 := by simp; omega
      clear hO0 hbA hap0
      go_wp2_with (at_builtin; refine appAt (e := strE) rfl _ _ rfl (unhide HOE) rfl av q cv rfl hq (unhide HO4).at (unhide HO4).adG hlb hz4 ?_; intro v5 w5 hO5 hb5 hg5 hw5; have hoA := keptT (unhide HO4) (unhide HAP).symm hg5; have hapA := (unhide HAP).symm.next (unhide HO4) (Nat.le_refl _) hw5; rw [List.nil_append] at hO5; obtain ⟨a5, c5, hv5⟩ := hO5.form; rw [hq] at hv5; subst hv5)
      have HO5 := hide hO5
      have HA5 := hide hoA
      have HAP5 := hide hapA
      have HD5 := hide ((unhide HD4).belowB hb5 hRl (Nat.le_refl _))
      clear hO5 hb5 hg5 hw5 hoA hapA HO4 HD4 HOE HAP
      obtain ⟨g5, e5, l5, p5, -⟩ := (unhide HO5).at.str 0 (by omega)
      subst e5
      have HBW := hide (below_calls R a len cap zs (q : Int) w5 (unhide HD5).rd (by omega) (by omega))
      clear p5 l5
      go_wp2_with fail
      refine (unhide HBW).mono ?_
      rintro e w6 ⟨x6, rfl, hx0, hx1, hR6, ho6⟩
      obtain ⟨K, rfl⟩ := Int.eq_ofNat_of_zero_le hx0
      have HD6 := hide ((unhide HD5).call hR6 ho6)
      have HO6 := hide ((unhide HO5).onlN ho6 (by simp; omega))
      have HA6 := hide ((unhide HA5).onlN ho6 (by simp; omega))
      have hcap := (unhide HO6).capT
      have k1 : (K : Int) ≤ (c5 : Int) := by omega
      have k2 : (K : Int) + 1 ≤ (q : Int) := by omega
      obtain ⟨K1, hK1⟩ : ∃ K1 : Nat, K + 1 = K1 := ⟨_, rfl⟩
      have k3 : (K : Int) + 1 = (K1 : Int) := by omega
      have k4 : (K1 : Int) ≤ (q : Int) := by omega
      have k5 : (q : Int) ≤ (c5 : Int) := by omega
      have k6 : IntKind.i64.wrap (K1 : Int) = (K1 : Int) := by rw [IntKind.wrap_i64]; omega
      have k7 : (0 : Int) ≤ (K1 : Int) := by omega
      have hd1 : w1.heap.size ≤ w6.drew.heap.size := (unhide HD6).only.size
      have HPR := hide (show OwnR strE w6.drew w1.heap.size (.slice (some ⟨g5, 0, none⟩) K c5) (ds.take K) from (unhide HO6).preT K (by omega))
      obtain ⟨AD, hAD, hAD2⟩ : ∃ AD : Addr, (if c5 = K1 then some ⟨g5, 0, none⟩ else some ⟨g5, K1, none⟩) = some AD ∧ (K1 < q → AD = ⟨g5, K1, none⟩) := by
        by_cases e : c5 = K1
        · exact ⟨⟨g5, 0, none⟩, by rw [if_pos e], fun h => by omega⟩
        · exact ⟨⟨g5, K1, none⟩, by rw [if_neg e], fun _ => rfl⟩
      have HCE := hide (show ∀ j u, ((ds.drop K1).flatMap strE.enc)[j]? = some u → w6.drew.cell? (AD.add j) = some u from by
        intro j u hj
        have hfl : ((ds.drop K1).flatMap strE.enc).length = (ds.drop K1).length := by rw [flat_len strE.enc 1 strE.hlen, Nat.mul_one]
        have hjl : j < (ds.drop K1).length := by
          have := (List.getElem?_eq_some_iff.1 hj).1
          omega
        have hjd : K1 + j < ds.length := by rw [List.length_drop] at hjl; omega
        rw [hAD2 (by omega)]
        obtain ⟨g', e', _, p', -⟩ := (unhide HO6).at.str (K1 + j) hjd
        cases e'
        have h2 := flat_get strE.enc 1 strE.hlen (ds.drop K1) j 0 hjl (by omega)
        rw [Nat.mul_one, Nat.add_zero] at h2
        rw [h2] at hj
        have h3 : u = .string (ds.drop K1)[j] := by
          have : (strE.enc (ds.drop K1)[j])[0]? = some (.string (ds.drop K1)[j]) := rfl
          rw [this] at hj
          exact (Option.some.inj hj).symm
        rw [show (⟨g5, K1, none⟩ : Addr).add j = ⟨g5, K1 + j, none⟩ from by unfold Addr.add; split <;> simp_all, h3, List.getElem_drop]
        exact p')
      have HYL := hide (show (ds.drop K1).length = q - K1 from by rw [List.length_drop, hq])
      have hlc : (ds.take K).length + (q - K1) < 100000000 := by rw [List.length_take]; omega
      have HAd := hide (show OwnR strE w6.drew w1.heap.size (.slice av q cv) ds from unhide HA6)
      have HDd := hide (unhide HD6).drew
      have HLN := hide (show (ds.take K ++ ds.drop K1).length ≤ 200 from by rw [List.length_append, List.length_take, List.length_drop]; omega)
      have HFN := hide (show ∀ s ∈ ds.take K ++ ds.drop K1, s.size ≤ 100 from fun s hs => by
        rcases List.mem_append.1 hs with h | h
        · exact unhide HF s (List.mem_of_mem_take h)
        · exact unhide HF s (List.mem_of_mem_drop h))
      clear hR6 ho6 HO5 HA5 HD5 HBW
      go_wp2_with fail
      go_region_law (first
        | (refine stepCut rfl _ _ rfl (w := w6.drew) (unhide HPR) rfl AD (q - K1) (c5 - K1) rfl (unhide HYL) (unhide HCE) hlc hd1 ?_; intro v7 w7 hO7 hb7 hg7; obtain ⟨a7, c7, hv7⟩ := hO7.form; generalize hL7 : (ds.take K ++ ds.drop K1).length = m7 at hv7; subst hv7))
      all_goals (try go_wp2_with fail)
      all_goals
        have hAk := keptT (unhide HAd) (show ApT (.slice (some ⟨g5, 0, none⟩) K c5) (.slice av q cv) from fun g hg => unhide HAP5 g (by simpa [Value.ownBlock] using hg)) hg7
        exact bodyPost_ret (v := .tuple #[.slice av q cv, .slice a7 m7 c7]) (by simp [results, Tryz.results5, go_sem]) rfl ⟨_, ds, _, _, rfl, hide (hAk.le hz1), HF, by omega, hide (hO7.le hz1), HFN, unhide HLN, (unhide HB1).trans (((unhide HDd).belowB hb7 hRl (Nat.le_refl _)).only.below (B := w.heap.size) hRB hz1)⟩
end Go.Proofs.YtldgkpnlplfopaaGreatDoor
