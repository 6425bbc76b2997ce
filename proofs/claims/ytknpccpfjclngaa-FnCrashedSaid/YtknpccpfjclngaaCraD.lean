/- What DrawCrash draws: a disk, places, a number. -/
import Derived.Test.YtknpccpfjclngaaDrwK
import Derived.Test.YtknpccpfjclngaaDrawB
import Derived.Test.YtknpccpfjclngaaGAK
import Derived.Deep.RegionLaw
import Derived.Deep.CutBlock
import Derived.Deep.DeepCutAuto
namespace Go.Proofs.Ytknpccpfjclngaa
open Go.RowKit Plain
set_option linter.unusedVariables false

theorem isRow_belC {w w' : World} {a : Option Addr} {len cap : Nat} {zs : List Int} (h : IsRow .u8 w a len cap zs) (hb : Below w.heap.size w w') : IsRow .u8 w' a len cap zs := by
  rcases h with h | ⟨x, hx, h1, h2, h3, h4, h5⟩
  · exact .inl h
  · refine .inr ⟨x, hx, h1, h2, h3, fun i hi => ?_, h5⟩
    have hc := h4 i hi
    exact (hb.cell (p := x.add i) (lt_of_cell hc)).trans hc
/-- No block ahead of B but R has changed. -/
structure Plain.KeepB (B R : Nat) (W W' : World) : Prop where
  lo : B ≤ W.heap.size
  sz : W.heap.size ≤ W'.heap.size
  bk : ∀ g, g < B → g ≠ R → W'.heap[g]? = W.heap[g]?
theorem Plain.KeepB.refl {B R : Nat} {W : World} (h : B ≤ W.heap.size) : KeepB B R W W := ⟨h, Nat.le_refl _, fun _ _ _ => rfl⟩
theorem Plain.KeepB.only {B R : Nat} {W X Y : World} (h : KeepB B R W X) (ho : OnlyAt ⟨R, 1, none⟩ X Y) : KeepB B R W Y :=
  ⟨h.lo, Nat.le_trans h.sz ho.size, fun g hg hn => (ho.block g (by have := h.lo; have := h.sz; omega) (by simp; omega)).trans (h.bk g hg hn)⟩
theorem Plain.KeepB.below {B R : Nat} {W X Y : World} (h : KeepB B R W X) (hb : Below B X Y) : KeepB B R W Y :=
  ⟨h.lo, Nat.le_trans h.sz hb.size, fun g hg hn => (hb.block g hg).trans (h.bk g hg hn)⟩
theorem Plain.KeepB.cell {B R : Nat} {W X : World} (h : KeepB B R W X) {g i : Nat} {v : Value} (hc : W.cell? ⟨g, i, none⟩ = some v) (hg : g < B) (hn : g ≠ R) : X.cell? ⟨g, i, none⟩ = some v := (World.cell?_of_block (a := ⟨g, i, none⟩) (h.bk g hg hn)).trans hc
theorem Plain.KeepB.frz {B R : Nat} {W X : World} (h : KeepB B R W X) {g i : Nat} (hc : W.frozen? ⟨g, i, none⟩ = false) (hg : g < B) (hn : g ≠ R) : X.frozen? ⟨g, i, none⟩ = false := (World.frozen?_of_block (a := ⟨g, i, none⟩) (h.bk g hg hn)).trans hc
theorem RowAt.kb {α : Type} {e : Elem α} {B R : Nat} {W X : World} {a : Option Addr} {xs : List α} (r : RowAt e W a xs) (h : KeepB B R W X) (hn : ∀ g, inB a g → g ≠ R) (hB : B = W.heap.size) : RowAt e X a xs := fun i hi => by
  obtain ⟨g, e1, hl, hc⟩ := r i hi
  have hg : g < B := by omega
  have hr := hn g ⟨0, e1⟩
  exact ⟨g, e1, Nat.lt_of_lt_of_le hl h.sz, fun j hj => ⟨(World.cell?_of_block (a := ⟨g, i * e.n + j, none⟩) (h.bk g hg hr)).trans (hc j hj).1, (World.frozen?_of_block (a := ⟨g, i * e.n + j, none⟩) (h.bk g hg hr)).trans (hc j hj).2⟩⟩
theorem RowO.kb {α : Type} {e : Elem α} {B R : Nat} {W X : World} {a : Option Addr} {xs : List α} (r : RowO e W a xs) (h : KeepB B R W X) (hn : ∀ g, inB a g → g ≠ R) (hB : B = W.heap.size) : RowO e X a xs := fun i hi => by
  obtain ⟨g, o, e1, hl, hc⟩ := r i hi
  have hg : g < B := by omega
  have hr := hn g ⟨o, e1⟩
  exact ⟨g, o, e1, Nat.lt_of_lt_of_le hl h.sz, fun j hj => ⟨(World.cell?_of_block (a := ⟨g, o + i * e.n + j, none⟩) (h.bk g hg hr)).trans (hc j hj).1, (World.frozen?_of_block (a := ⟨g, o + i * e.n + j, none⟩) (h.bk g hg hr)).trans (hc j hj).2⟩⟩
/-- What DrawCrash answers. -/
def Plain.CrD (w : World) (e : Ending) (w' : World) : Prop :=
  ∃ aL cL live aS cS safe aO cO ops ak ck ks t, e = .returned (.tuple #[.agg #[.slice aL (List.length live) cL, .slice aS (List.length safe) cS, .slice aO (List.length ops) cO], .slice ak (List.length ks) ck, .int .i64 t]) ∧ (RowAt fileE w' aL live ∧ RowAt fileE w' aS safe ∧ RowO dopE w' aO ops) ∧ (AdOk aL cL ∧ AdOk aS cS) ∧ (FitF live ∧ FitF safe ∧ (∀ o ∈ ops, SmO o) ∧ live.length ≤ 1000 ∧ safe.length ≤ 1000 ∧ ops.length ≤ 200) ∧ RowAt i64E w' ak ks ∧ ks.length ≤ 201 ∧ ((∀ g, inB aL g → w.heap.size ≤ g) ∧ (∀ g, inB aS g → w.heap.size ≤ g) ∧ (∀ g, inB aO g → w.heap.size ≤ g) ∧ ∀ g, inB ak g → w.heap.size ≤ g) ∧ Below w.heap.size w w'

set_option maxRecDepth 10000 in
set_option maxHeartbeats 8000000 in
theorem DrawCrash_calls (a : Option Addr) (len cap : Nat) (zs : List Int) (w : World) (h : IsRow .u8 w a len cap zs) (hl : len ≤ 1048576) :
    Calls Try.prog 6 #[.slice a len cap] w (CrD w) := by
  obtain ⟨W0, hW0⟩ : ∃ W0, W0 = w.alloc (.cells #[.slice none 0 0, .slice none 0 0, .slice none 0 0] 27) := ⟨_, rfl⟩
  have hb0 : Below w.heap.size w W0 := by rw [hW0]; exact bel1 _ _
  have hs0 : W0.heap.size = w.heap.size + 1 := by rw [hW0]; simp
  have HN0 := hide (show NwK w.heap.size (.slice none 0 0) (.slice none 0 0) (.slice none 0 0) W0 from by rw [hW0]; exact NwK.new w _ _ _)
  have H0 := hide (isRow_belC h hb0)
  have HB0 := hide hb0
  have HW0 := hide hW0.symm
  clear h hW0 hb0
  go_enter Try.func6, Try.ntmps6
  go_wp2_with fail
  rw [unhide HW0]
  refine (open_calls a len cap zs W0 (unhide H0) hl).mono ?_
  rintro e w1 ⟨rfl, hR1, hb1⟩
  obtain ⟨R, hR⟩ : ∃ R, W0.heap.size = R := ⟨_, rfl⟩
  rw [hR] at hR1
  rw [hR]
  have HR1 := hide hR1
  have HB1 := hide (belOn (unhide HB0) hb1)
  have hz1 : R < w1.heap.size := hR1.lt
  have HN1 := hide ((unhide HN0).below hb1)
  clear hR1 hb1 HN0
  go_wp2_with fail
  refine (diskD_calls R a len cap zs w1 (unhide HR1)).mono ?_
  rintro e w2 ⟨aL, cL, live, aS, cS, safe, aO, cO, ops, rfl, ⟨r1, r2, r3⟩, ⟨ad1, ad2⟩, hfit, ⟨n1, n2, n3⟩, hR2, ho2⟩
  obtain ⟨W3, hW3⟩ : ∃ W3, W3 = w2.alloc (.cells #[.slice aL live.length cL, .slice aS safe.length cS, .slice aO ops.length cO] 27) := ⟨_, rfl⟩
  have hb3 : Below w2.heap.size w2 W3 := by rw [hW3]; exact bel1 _ _
  have hz2 := ho2.size
  have hs3 : W3.heap.size = w2.heap.size + 1 := by rw [hW3]; simp
  have HK3 := hide (show NwK w2.heap.size (.slice aL live.length cL) (.slice aS safe.length cS) (.slice aO ops.length cO) W3 from by rw [hW3]; exact NwK.new w2 _ _ _)
  have HN3 := hide (((unhide HN1).only ho2 (by omega)).below hb3)
  have HRW := hide (And.intro (r1.below hb3) (And.intro (r2.below hb3) (r3.below hb3)))
  have HNN := hide (And.intro n1 (And.intro n2 n3))
  have HAD := hide (And.intro ad1 ad2)
  have HFT := hide hfit
  have hol : ops.length ≤ 200 := hfit.2.2.2.2.2
  have HR3 := hide (hR2.below hb3)
  have HB3 := hide ((unhide HB1).trans ((ho2.below (by show w.heap.size ≤ R; omega) (by omega)).trans (hb3.mono (by omega))))
  have HW3 := hide hW3.symm
  clear r1 r2 r3 ad1 ad2 hfit n1 n2 n3 hR2 ho2 hW3 hb3 HR1 HB1 HN1
  go_upto_region 3 with fail
  rw [unhide HW3]
  have HO4 := hide (show OwnR i64E (W3.alloc (.cells #[] 2)) W3.heap.size (.slice (some ⟨W3.heap.size, 0, none⟩) 0 0) [] from ownR_empty i64E W3 W3.heap.size (Nat.le_refl _))
  have HR4 := hide ((unhide HR3).below (bel1 W3 (.cells #[] 2)))
  have HB4 := hide (belOn (unhide HB3) (bel1 W3 (.cells #[] 2)))
  have HQ4 := hide ((KeepB.refl (B := W3.heap.size) (R := R) (W := W3) (Nat.le_refl _)).below (bel1 W3 (.cells #[] 2)))
  have hRB : R < W3.heap.size := by omega
  have hRn : w2.heap.size ≠ R := by omega
  have hRw : w.heap.size ≠ R := by omega
  have hlD : w2.heap.size < W3.heap.size := by omega
  have hzw : w.heap.size ≤ W3.heap.size := by omega
  have hRw2 : w.heap.size ≤ R := by omega
  have HS3 := hide hs3
  clear HR3 HB3 hs3
  go_wp2_with fail
  go_loopw [7, 8] (fun s7 s8 wr => ∃ (i nk : Nat) (ks : List Int) (ak : Option Addr) (ck : Nat), s7 = .slice ak nk ck ∧ s8 = .int .i64 i ∧ i ≤ ops.length ∧ nk ≤ i ∧ Hid (ks.length = nk) ∧ Hid (OwnR i64E wr W3.heap.size (.slice ak nk ck) ks) ∧ Hid (KeepB W3.heap.size R W3 wr) ∧ Hid (Rd wr R a len cap zs) ∧ Hid (Below w.heap.size w wr)) (fun _ s8 _ => ops.length - (intOf s8).toNat)
  case atStart => exact ⟨0, 0, [], _, _, rfl, rfl, by omega, by omega, hide rfl, HO4, HQ4, HR4, HB4⟩
  case round =>
    clear HO4 HQ4 HR4 HB4
    obtain ⟨i, nk, ks, ak, ck, rfl, rfl, hi, hks, HKN, HO, HQ, HR, HB⟩ := hrel
    have q2 := (unhide HQ).cell (unhide HK3).c2 hlD hRn
    by_cases hin : i < ops.length
    · go_wp2_with fail
      refine (once_calls R a len cap zs 2 wr (unhide HR) (by omega) (by omega)).mono ?_
      rintro e w5 ⟨b, rfl, hR5, ho5⟩
      have HO5 := hide ((unhide HO).onlN ho5 (by show R < _; omega))
      have HQ5 := hide ((unhide HQ).only ho5)
      have HR5 := hide hR5
      have HB5 := hide ((unhide HB).trans (ho5.below (by show w.heap.size ≤ R; exact hRw2) (unhide HB).size))
      clear hR5 ho5 HO HQ HR HB q2
      cases b with
      | true =>
        have hlk : ks.length < 100000000 := by rw [unhide HKN]; omega
        have hBk : W3.heap.size ≤ w5.heap.size := (unhide HQ5).sz
        go_wp2_with (at_builtin; refine appR (e := i64E) rfl _ _ rfl (unhide HO5) rfl (i : Int) rfl _ rfl rfl hlk hBk ?_; intro v6 w6 hO6 hb6 _; obtain ⟨a6, c6, hv6⟩ := hO6.form; rw [List.length_append, unhide HKN] at hv6; simp only [List.length_cons, List.length_nil, Nat.zero_add] at hv6; subst hv6)
        exact ⟨⟨i + 1, nk + 1, ks ++ [(i : Int)], a6, c6, rfl, by go_num, by omega, by omega, hide (by rw [List.length_append, unhide HKN]; rfl), hide hO6, hide ((unhide HQ5).below hb6), hide ((unhide HR5).onlyB hb6 hRB), hide ((unhide HB5).trans (hb6.mono hzw))⟩, by simp [intOf]; omega⟩
      | false =>
        go_wp2_with fail
        exact ⟨⟨i + 1, nk, ks, ak, ck, rfl, by go_num, by omega, by omega, HKN, HO5, HQ5, HR5, HB5⟩, by simp [intOf]; omega⟩
    · obtain rfl : i = ops.length := by omega
      go_wp2_with fail
      refine (once_calls R a len cap zs 16 wr (unhide HR) (by omega) (by omega)).mono ?_
      rintro e w5 ⟨b, rfl, hR5, ho5⟩
      have HO5 := hide ((unhide HO).onlN ho5 (by show R < _; omega))
      have HQ5 := hide ((unhide HQ).only ho5)
      have HR5 := hide hR5
      have HB5 := hide ((unhide HB).trans (ho5.below (by show w.heap.size ≤ R; exact hRw2) (unhide HB).size))
      have q2 := (unhide HQ5).cell (unhide HK3).c2 hlD hRn
      clear hR5 ho5 HO HQ HR HB
      go_upto_if 28 with fail
      go_cut [7] (fun s7 wx => ∃ (nk : Nat) (ks : List Int) (ak : Option Addr) (ck : Nat), s7 = .slice ak nk ck ∧ nk ≤ 201 ∧ Hid (ks.length = nk) ∧ Hid (OwnR i64E wx W3.heap.size (.slice ak nk ck) ks) ∧ Hid (KeepB W3.heap.size R W3 wx) ∧ Hid (Rd wx R a len cap zs) ∧ Hid (Below w.heap.size w wx))
      case first =>
        cases b with
        | true =>
          have hlk : ks.length < 100000000 := by rw [unhide HKN]; omega
          go_wp2_with fail
          refine (off_calls R a len cap zs 0 ops.length w5 (unhide HR5) (by omega) (by omega) (by omega)).mono ?_
          rintro e w6 ⟨v, rfl, -, -, hR6, ho6⟩
          have HO6 := hide ((unhide HO5).onlN ho6 (by show R < _; omega))
          have HQ6 := hide ((unhide HQ5).only ho6)
          have HR6 := hide hR6
          have HB6 := hide ((unhide HB5).trans (ho6.below (by show w.heap.size ≤ R; exact hRw2) (unhide HB5).size))
          have hBk : W3.heap.size ≤ w6.heap.size := Nat.le_trans (unhide HQ6).lo (unhide HQ6).sz
          clear hR6 ho6 HO5 HQ5 HR5 HB5
          go_wp2_with (at_builtin; refine appR (e := i64E) rfl _ _ rfl (unhide HO6) rfl v rfl _ rfl rfl hlk hBk ?_; intro v7 w7 hO7 hb7 _; obtain ⟨a7, c7, hv7⟩ := hO7.form; rw [List.length_append, unhide HKN] at hv7; simp only [List.length_cons, List.length_nil, Nat.zero_add] at hv7; subst hv7)
          go_meet
          exact ⟨nk + 1, ks ++ [v], a7, c7, rfl, by omega, hide (by rw [List.length_append, unhide HKN]; rfl), hide hO7, hide ((unhide HQ6).below hb7), hide ((unhide HR6).onlyB hb7 hRB), hide ((unhide HB6).trans (hb7.mono hzw))⟩
        | false =>
          go_wp2_with fail
          go_meet
          exact ⟨nk, ks, ak, ck, rfl, by omega, HKN, HO5, HQ5, HR5, HB5⟩
      case rest =>
      obtain ⟨w6, rfl⟩ : ∃ w6, w6 = wc := ⟨_, rfl⟩
      clear HO5 HQ5 HR5 HB5 q2 HKN
      obtain ⟨nk, ks, ak, ck, rfl, hnk, HKN, HO, HQ, HR, HB⟩ := hcut
      have HQd := hide ((unhide HQ).below (belDrew (Below.refl W3.heap.size w6)))
      have HRd := hide ((unhide HR).below (belDrew (Below.refl _ _)))
      have HBd := hide ((unhide HB).trans (belDrew (Below.refl w.heap.size w6)))
      have HOd := hide (show OwnR i64E w6.drew W3.heap.size (.slice ak nk ck) ks from unhide HO)
      have q0 := (unhide HQd).cell (unhide HK3).c0 hlD hRn
      have q1 := (unhide HQd).cell (unhide HK3).c1 hlD hRn
      have q2 := (unhide HQd).cell (unhide HK3).c2 hlD hRn
      clear HQ HR HB HO
      go_upto_region 11 with fail
      go_region_law (first
        | (go_simp; (with_reducible refine (off_calls R a len cap zs 0 4 w6.drew (unhide HRd) (by omega) (by omega) (by omega)).mono ?_); rintro e w7 ⟨v7, rfl, -, -, hR7, ho7⟩; have HQ7 := hide ((unhide HQd).only ho7); have HO7 := hide ((unhide HOd).onlN ho7 (by show R < _; omega)); have HB7 := hide ((unhide HBd).trans (ho7.below (by show w.heap.size ≤ R; exact hRw2) (unhide HBd).size)); have u0 := (unhide HQ7).cell (unhide HK3).c0 hlD hRn; have u1 := (unhide HQ7).cell (unhide HK3).c1 hlD hRn; have u2 := (unhide HQ7).cell (unhide HK3).c2 hlD hRn; have d0 := (unhide HQ7).cell (unhide HN3).c0 (unhide HN3).lt hRw; have d1 := (unhide HQ7).cell (unhide HN3).c1 (unhide HN3).lt hRw; have d2 := (unhide HQ7).cell (unhide HN3).c2 (unhide HN3).lt hRw; have f0 := (unhide HQ7).frz (unhide HN3).z0 (unhide HN3).lt hRw; have f1 := (unhide HQ7).frz (unhide HN3).z1 (unhide HN3).lt hRw; have f2 := (unhide HQ7).frz (unhide HN3).z2 (unhide HN3).lt hRw; clear hR7 ho7))
      all_goals (try go_wp2_with fail)
      all_goals refine bodyPost_ret (v := .tuple #[.agg #[.slice aL live.length cL, .slice aS safe.length cS, .slice aO ops.length cO], .slice ak nk ck, .int .i64 v7]) (by simp [results, Try.results6, go_sem, d0, d1, d2]) rfl ?_
      all_goals
        obtain ⟨n1, n2, n3⟩ := unhide HNN
        obtain ⟨r1, r2, r3⟩ := unhide HRW
        have hQ := unhide HQ7
        have hbo := (unhide HO7).bl
        have hk := unhide HKN
        exact ⟨aL, cL, live, aS, cS, safe, aO, cO, ops, ak, ck, ks, v7, by rw [hk], ⟨RowAt.set3K (RowAt.kb r1 hQ (fun g hg => by have := n1 g hg; omega) rfl) (fun g hg => by have := n1 g hg; omega), RowAt.set3K (RowAt.kb r2 hQ (fun g hg => by have := n2 g hg; omega) rfl) (fun g hg => by have := n2 g hg; omega), rowO_set3 (RowO.kb r3 hQ (fun g hg => by have := n3 g hg; omega) rfl) (fun g hg => by have := n3 g hg; omega)⟩, unhide HAD, unhide HFT, RowAt.set3K (unhide HO7).at (fun g hg => by have := (hbo g hg).1; omega), by rw [hk]; exact hnk, ⟨fun g hg => by have := n1 g hg; omega, fun g hg => by have := n2 g hg; omega, fun g hg => by have := n3 g hg; omega, fun g hg => by have := (hbo g hg).1; omega⟩, belSet3 (unhide HB7) (Nat.le_refl _)⟩
end Go.Proofs.Ytknpccpfjclngaa
