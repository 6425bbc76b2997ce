/- What is drawn for manifests: odd ones. -/
import Derived.Test.YtkeindhefiaghaaDrawM
import Derived.Deep.RegionWith
import Derived.OneCell
namespace Go.Proofs.Ytkeindhefiaghaa
open Go.RowKit Plain
set_option linter.unusedVariables false

namespace Plain
/-- Block M is a manifest's. -/
def MB (M : Nat) (c : ByteArray) (v : Value) (w : World) : Prop := w.heap[M]? = some (.cells #[.string c, v] 26 (0, 0))
theorem MB.lt {M : Nat} {c : ByteArray} {v : Value} {w : World} (h : MB M c v w) : M < w.heap.size := (Array.getElem?_eq_some_iff.1 h).1
theorem MB.mc {M : Nat} {c : ByteArray} {v : Value} {w : World} (h : MB M c v w) : Mc M c v w := ⟨cell_of_row w M 0 _ _ _ h, cell_of_row w M 1 _ _ _ h, frozen_of_row w M 0 _ _ h, frozen_of_row w M 1 _ _ h, h.lt⟩
theorem MB.new (w : World) (c : ByteArray) (v : Value) : MB w.heap.size c v (w.alloc (.cells #[.string c, v] 26)) := h_new w _ rfl
theorem MB.only {M R : Nat} {c : ByteArray} {v : Value} {w w' : World} (h : MB M c v w) (ho : OnlyAt ⟨R, 1, none⟩ w w') (hne : M ≠ R) : MB M c v w' := (ho.block M h.lt hne).trans h
theorem MB.grown {M : Nat} {c : ByteArray} {v : Value} {w w' : World} {row : Option Nat} (h : MB M c v w) (hg : w.grownBy w' row) (hne : some M ≠ row) : MB M c v w' := (hg.block M h.lt hne).trans h
theorem MB.alloc {M : Nat} {c : ByteArray} {v : Value} {w : World} (h : MB M c v w) (o : Obj) : MB M c v (w.alloc o) := ((bel1 w o).block M h.lt).trans h
theorem MB.set0 {M : Nat} {c : ByteArray} {v : Value} {w : World} (h : MB M c v w) (x : ByteArray) : MB M x v (w.setCell ⟨M, 0, none⟩ (.string x)) := heap_setCell_same w M 0 _ _ _ h
theorem MB.set1 {M : Nat} {c : ByteArray} {v : Value} {w : World} (h : MB M c v w) (x : Value) : MB M c x (w.setCell ⟨M, 1, none⟩ x) := heap_setCell_same w M 1 _ _ _ h
theorem MB.drewN {M : Nat} {c : ByteArray} {v : Value} {w : World} (h : MB M c v w) (k : Nat) : MB M c v (w.drewN k) := h
theorem MBfar {M b i : Nat} {c : ByteArray} {v : Value} {w : World} (h : MB M c v w) (hne : b ≠ M) (x : Value) : MB M c v (w.setCell ⟨b, i, none⟩ x) := (heap_setCell_other w ⟨b, i, none⟩ M x (fun e => hne e.symm)).trans h
def lenAt (M : Nat) (w : World) : Nat := match w.cell? ⟨M, 1, none⟩ with
  | some (.slice _ n _) => n
  | _ => 0
theorem lenAt_of {M : Nat} {c : ByteArray} {a : Option Addr} {n k : Nat} {w : World} (h : MB M c (.slice a n k) w) : lenAt M w = n := by unfold lenAt; rw [h.mc.c1]
end Plain
theorem OwnR.far {w : World} {B M i : Nat} {v : Value} {ls : List ByteArray} (h : OwnR strE w B v ls) (hne : some M ≠ v.ownBlock) (x : Value) : OwnR strE (w.setCell ⟨M, i, none⟩ x) B v ls := ownsRow_setCell_other h (fun e => hne e.symm) x
theorem own_ne {w : World} {B M : Nat} {v x : Value} {c : ByteArray} {ls : List ByteArray} (h : OwnR strE w B v ls) (hm : MB M c x w) : some M ≠ v.ownBlock := by
  intro e
  rcases h.2 with ⟨e1, _⟩ | ⟨g, cap, cur, e1, hb, hc, _⟩
  · rw [e1] at e; simp [Value.ownBlock] at e
  · rw [e1] at e
    have : M = g := by simpa [Value.ownBlock] using e
    subst this
    rw [hm] at hc
    simp [strE] at hc

/-- What the drawing of a manifest leaves. -/
def ManPost (R : Nat) (a : Option Addr) (len cap : Nat) (zs : List Int) (w : World) (e : Ending) (w' : World) : Prop := ∃ (c : ByteArray) (v : Value) (ls : List ByteArray), e = .returned (.agg #[.string c, v]) ∧ Hid (ManAt w' w.heap.size v c ls) ∧ Rd w' R a len cap zs ∧ OnlyAt ⟨R, 1, none⟩ w w'

set_option maxRecDepth 10000 in
set_option maxHeartbeats 8000000 in
theorem oddManifest_calls (R : Nat) (a : Option Addr) (len cap : Nat) (zs : List Int) (w : World) (h : Rd w R a len cap zs) :
    Calls Try.prog 63 #[.pointer (some ⟨R, 0, none⟩)] w (ManPost R a len cap zs w) := by
  have hR := h.lt
  have H := hide ((DS.start h).alloc (.cells #[.string ⟨#[]⟩, .slice none 0 0] 26))
  have HZ := hide (MB.new w ⟨#[]⟩ (.slice none 0 0))
  clear h
  go_enter Try.func63, Try.ntmps63
  go_wp2_with fail
  refine (manifest_calls R a len cap zs _ (unhide H).rd).mono ?_
  rintro e w1 ⟨c, v, ls, rfl, hma, hR1, ho1⟩
  have hz1 : w.heap.size < w1.heap.size := by have := ho1.size; simp at this; omega
  obtain ⟨hO1, hc1, hl1, hs1⟩ := unhide hma
  obtain ⟨av, cv, hv⟩ := hO1.form
  subst hv
  obtain ⟨n, hn⟩ : ∃ n, ls.length = n := ⟨_, rfl⟩
  rw [hn] at hO1 hl1 ⊢
  have hb1 := bel1 w1 (.cells #[.string c, .slice av n cv] 26)
  have HO := hide ((hO1.keep hb1).le (B' := w.heap.size + 1) (by simp))
  have HD := hide (((unhide H).call hR1 ho1).alloc (.cells #[.string c, .slice av n cv] 26))
  have HZ1 := hide (((unhide HZ).only ho1 (by omega)).alloc (.cells #[.string c, .slice av n cv] 26))
  have HS1 := hide (MB.new w1 c (.slice av n cv))
  have HSZ := hide hs1
  have HN := hide hn
  clear hR1 ho1 H HZ hma hO1 hs1 hb1
  go_wp2_with fail
  refine (below_calls R a len cap zs 20 _ (unhide HD).rd (by omega) (by omega)).mono ?_
  rintro e w2 ⟨u, rfl, hu0, hu1, hR2, ho2⟩
  have HD2 := hide ((unhide HD).call hR2 ho2)
  have HZ2 := hide ((unhide HZ1).only ho2 (by omega))
  have HS2 := hide ((unhide HS1).only ho2 (by omega))
  have HO2 := hide ((unhide HO).only ho2 (by simp; omega))
  have hne : w.heap.size ≠ w1.heap.size := by omega
  clear hR2 ho2 HD HZ1 HS1 HO
  by_cases c0 : u = 0
  · subst c0
    go_wp2_with fail
    refine (oddDigest_calls R a len cap zs _ (unhide HD2).rd).mono ?_
    rintro e w3 ⟨d, rfl, hd, hR3, ho3⟩
    have HD3 := hide ((unhide HD2).call hR3 ho3)
    have HZ3 := hide ((unhide HZ2).only ho3 (by omega))
    have HS3 := hide ((unhide HS2).only ho3 (by omega))
    have HO3 := hide ((unhide HO2).only ho3 (by simp; omega))
    obtain ⟨s0, s1, f0, f1, slt⟩ := (unhide HS3).mc
    obtain ⟨q0, q1, g0, g1, qlt⟩ := (unhide HZ3).mc
    clear hR3 ho3 HD2 HZ2 HS2 HO2
    go_wp2_with fail
    have hn1 := own_ne (unhide HO3) (unhide HS3)
    have hn0 := own_ne (unhide HO3) (unhide HZ3)
    have hfin := (((unhide HD3).set (b := w1.heap.size) (i := 0) hR (by omega) (.string d)).set (b := w.heap.size) (i := 0) hR (Nat.le_refl _) (.string d)).set (b := w.heap.size) (i := 1) hR (Nat.le_refl _) (.slice av n cv)
    exact bodyPost_ret (v := .agg #[.string d, .slice av n cv]) (by simp [results, Try.results63, go_sem, q0, q1]) rfl
      ⟨d, .slice av n cv, ls, rfl, hide ⟨(((unhide HO3).far hn1 _).far hn0 _).far hn0 _ |>.le (by omega), by omega, by rw [unhide HN]; omega, unhide HSZ⟩, hfin.rd, hfin.only⟩
  · have b0 : (u == 0) = false := by simpa using c0
    by_cases c1 : u = 1
    · subst c1
      obtain ⟨s0, s1, f0, f1, slt⟩ := (unhide HS2).mc
      obtain ⟨q0, q1, g0, g1, qlt⟩ := (unhide HZ2).mc
      go_wp2_with fail
      have hfin := (((unhide HD2).set (b := w1.heap.size) (i := 1) hR (by omega) (.slice none 0 0)).set (b := w.heap.size) (i := 0) hR (Nat.le_refl _) (.string c)).set (b := w.heap.size) (i := 1) hR (Nat.le_refl _) (.slice none 0 0)
      exact bodyPost_ret (v := .agg #[.string c, .slice none 0 0]) (by simp [results, Try.results63, go_sem, q0, q1]) rfl
        ⟨c, .slice none 0 0, [], rfl, hide ⟨ownR_nil _ _ _, by omega, by simp, by simp⟩, hfin.rd, hfin.only⟩
    · have b1 : (u == 1) = false := by simpa using c1
      by_cases c2 : u = 2
      · subst c2
        go_wp2_with fail
        go_loopw [24] (fun _ wr => ∃ (k2 : Nat) (a2 : Option Addr) (ds : List ByteArray), ds.length ≤ 50 ∧ Hid (DS w R a len cap zs wr) ∧ Hid (MB w.heap.size ⟨#[]⟩ (.slice none 0 0) wr) ∧ Hid (MB w1.heap.size c (.slice a2 ds.length k2) wr) ∧ Hid (OwnR strE wr (w.heap.size + 1) (.slice a2 ds.length k2) ds) ∧ Hid (∀ l ∈ ds, l.size ≤ 100)) (fun _ wr => 60 - lenAt w1.heap.size wr)
        case atStart => exact ⟨cv, av, ls, by rw [unhide HN]; omega, HD2, HZ2, by rw [unhide HN]; exact HS2, by rw [unhide HN]; exact HO2, HSZ⟩
        case round =>
          obtain ⟨k2, a2, ds, hds, HDr, HZr, HSr, HOr, HLr⟩ := hrel
          have hla := lenAt_of (unhide HSr)
          obtain ⟨s0, s1, f0, f1, slt⟩ := (unhide HSr).mc
          have HBC := hide (below_calls R a len cap zs 2 wr.drew ((unhide HDr).drew.rd) (by omega) (by omega))
          have HLA := hide hla
          clear hla
          go_wp2_with fail
          go_region_with (go_at_call 73; refine (unhide HBC).mono ?_; rintro e w3 ⟨b, rfl, hb0, hb1, hR3, ho3⟩; have HS3 := hide (((unhide HSr).drewN 1).only ho3 (by omega)); have HZ3 := hide (((unhide HZr).drewN 1).only ho3 (by omega)); have HO3 := hide (((unhide HOr).drewN 1).only ho3 (by simp; omega)); have HD3 := hide ((unhide HDr).drew.call hR3 ho3); obtain ⟨t0, t1, y0, y1, tlt⟩ := (unhide HS3).mc)
          all_goals
            clear s0 s1 f0 f1 slt hR3 ho3
            obtain ⟨L, hL⟩ : ∃ L : Nat, 40 + b = (L : Int) := ⟨(40 + b).toNat, by omega⟩
            have hw : IntKind.i64.wrap (40 + b) = (L : Int) := by rw [IntKind.wrap_i64]; omega
            rw [hw]
            have hL2 : L ≤ 41 := by omega
            clear hw hL
            by_cases hc : (ds.length : Int) < (L : Int)
            · have hz3 : w.heap.size + 1 ≤ w3.heap.size := by omega
              have hne3 := own_ne (unhide HO3) (unhide HS3)
              have hne4 := own_ne (unhide HO3) (unhide HZ3)
              have hal : ∀ i v, w3.cell? ⟨w1.heap.size, i, none⟩ = some v → ∀ ob, (w3.alloc ob).cell? ⟨w1.heap.size, i, none⟩ = some v := fun i v hv ob => bcl (bel1 w3 ob) tlt hv
              have t2 := hal 1 _ t1
              have HNE3 := hide hne3
              have HNE4 := hide hne4
              clear hal hne3 hne4
              go_wp2_with (at_builtin; go_must (refine appR (e := strE) rfl _ _ rfl (unhide HO3) rfl c rfl _ rfl rfl (by omega) hz3 ?_); intro v' w6 hown6 hb6 hg6; obtain ⟨av', cv', hv'⟩ := hown6.form; subst hv'; obtain ⟨z0, z1, x0, x1, zlt⟩ := (((unhide HS3).alloc _).grown hg6 (unhide HNE3)).mc)
              have hS6 := ((unhide HS3).alloc _).grown hg6 (unhide HNE3)
              have hZ6 := ((unhide HZ3).alloc _).grown hg6 (unhide HNE4)
              have hl6 : (ds ++ [c]).length = ds.length + 1 := by simp
              have hne6 := own_ne hown6 hS6
              have hd6 := (unhide HD3).belowB hb6 (by omega) (by omega)
              refine ⟨⟨cv', av', ds ++ [c], by rw [hl6]; omega, hide (hd6.set (b := w1.heap.size) (i := 1) hR (by omega) _), hide (MBfar hZ6 (by omega) _), hide ?_, hide ?_, hide ?_⟩, ?_⟩
              · rw [hl6]; exact hS6.set1 _
              · rw [hl6] at hown6 hne6 ⊢; exact hown6.far hne6 _
              · intro l hl
                rcases List.mem_append.1 hl with h | h
                · exact unhide HLr l h
                · obtain rfl := List.mem_singleton.1 h; exact hc1
              · rw [unhide HLA, lenAt_of (hS6.set1 (.slice av' (ds.length + 1) cv'))]
                omega
            · obtain ⟨q0, q1, g0, g1, qlt⟩ := (unhide HZ3).mc
              go_wp2_with fail
              have hn0 := own_ne (unhide HO3) (unhide HZ3)
              have hfin := ((unhide HD3).set (b := w.heap.size) (i := 0) hR (Nat.le_refl _) (.string c)).set (b := w.heap.size) (i := 1) hR (Nat.le_refl _) (.slice a2 ds.length k2)
              exact bodyPost_ret (v := .agg #[.string c, .slice a2 ds.length k2]) (by simp [results, Try.results63, go_sem, q0, q1]) rfl
                ⟨c, .slice a2 ds.length k2, ds, rfl, hide ⟨((unhide HO3).far hn0 _).far hn0 _ |>.le (by omega), by omega, by omega, unhide HLr⟩, hfin.rd, hfin.only⟩
      · have b2 : (u == 2) = false := by simpa using c2
        obtain ⟨s0, s1, f0, f1, slt⟩ := (unhide HS2).mc
        obtain ⟨q0, q1, g0, g1, qlt⟩ := (unhide HZ2).mc
        go_wp2_with fail
        have hn0 := own_ne (unhide HO2) (unhide HZ2)
        have hfin := ((unhide HD2).set (b := w.heap.size) (i := 0) hR (Nat.le_refl _) (.string c)).set (b := w.heap.size) (i := 1) hR (Nat.le_refl _) (.slice av n cv)
        exact bodyPost_ret (v := .agg #[.string c, .slice av n cv]) (by simp [results, Try.results63, go_sem, q0, q1]) rfl
          ⟨c, .slice av n cv, ls, rfl, hide ⟨((unhide HO2).far hn0 _).far hn0 _ |>.le (by omega), by omega, by rw [unhide HN]; omega, unhide HSZ⟩, hfin.rd, hfin.only⟩

theorem rowBelM {w w' : World} {a : Option Addr} {len cap : Nat} {zs : List Int} (h : IsRow .u8 w a len cap zs) (hb : Below w.heap.size w w') : IsRow .u8 w' a len cap zs := by
  rcases h with h | ⟨x, hx, h1, h2, h3, h4, h5⟩
  · exact .inl h
  · exact .inr ⟨x, hx, h1, h2, h3, fun i hi => (hb.cell (lt_of_cell (h4 i hi))).trans (h4 i hi), h5⟩

set_option maxRecDepth 10000 in
set_option maxHeartbeats 4000000 in
theorem DrawWriteManifest_calls (a : Option Addr) (len cap : Nat) (zs : List Int) (w : World) (h : IsRow .u8 w a len cap zs) (hl : len ≤ 1048576) :
    Calls Try.prog 17 #[.slice a len cap] w fun e w' => ∃ (c : ByteArray) (v : Value) (ls : List ByteArray), e = .returned (.agg #[.string c, v]) ∧ Hid (ManAt w' w.heap.size v c ls) ∧ Below w.heap.size w w' := by
  have hba := bel1 w (.cells #[.string ⟨#[]⟩, .slice none 0 0] 26)
  have H := hide (rowBelM h hba)
  have HZ := hide (MB.new w ⟨#[]⟩ (.slice none 0 0))
  have HBA := hide hba
  clear h hba
  go_enter Try.func17, Try.ntmps17
  go_wp2_with fail
  refine (open_calls a len cap zs _ (unhide H) hl).mono ?_
  rintro e w1 ⟨rfl, hR1, hb1⟩
  obtain ⟨R, hR⟩ : ∃ R, (w.alloc (.cells #[.string ⟨#[]⟩, .slice none 0 0] 26)).heap.size = R := ⟨_, rfl⟩
  have hRw : w.heap.size < R := by rw [← hR]; simp
  have HZ1 := hide ((unhide HZ).mc.below hb1 (by simp))
  have HB1 := hide ((unhide HBA).trans (hb1.mono (by simp)))
  rw [hR] at hR1 ⊢
  have hlt1 := hR1.lt
  have HR1 := hide hR1
  clear hR1 hb1 HZ HBA hR
  go_wp2_with fail
  refine (oddManifest_calls R a len cap zs _ (unhide HR1)).mono ?_
  rintro e w2 ⟨c, v, ls, rfl, hma, -, ho2⟩
  obtain ⟨hO2, hc2, hl2, hs2⟩ := unhide hma
  obtain ⟨av, cv, hv⟩ := hO2.form
  subst hv
  have HZ2 := hide ((unhide HZ1).only ho2 (by omega))
  have HB2 := hide ((unhide HB1).trans (ho2.below (Nat.le_of_lt hRw) (unhide HB1).size))
  have HO2 := hide hO2
  have HS2 := hide hs2
  obtain ⟨q0, q1, g0, g1, qlt⟩ := unhide HZ2
  clear hma ho2 hO2 hs2 HZ1 HB1 HR1
  go_wp2_with fail
  exact bodyPost_ret (v := .agg #[.string c, .slice av ls.length cv]) (by simp [results, Try.results17, go_sem, q0, q1]) rfl
    ⟨c, .slice av ls.length cv, ls, rfl, hide ⟨((unhide HO2).setLow (p := ⟨w.heap.size, 0, none⟩) (by simp; omega) _ |>.setLow (p := ⟨w.heap.size, 1, none⟩) (by simp; omega) _).le (by omega), hc2, hl2, unhide HS2⟩, (unhide HB2).setCell (p := ⟨w.heap.size, 0, none⟩) (Nat.le_refl _) _ |>.setCell (p := ⟨w.heap.size, 1, none⟩) (Nat.le_refl _) _⟩
end Go.Proofs.Ytkeindhefiaghaa
