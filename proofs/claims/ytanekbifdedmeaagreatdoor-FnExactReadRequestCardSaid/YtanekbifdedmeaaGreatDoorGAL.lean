/- Texts of one kind, put together. -/
import Derived.Test.YtanekbifdedmeaaGreatDoorRrI
import Derived.Test.YtanekbifdedmeaaGreatDoorRrT
import Derived.Test.YtanekbifdedmeaaGreatDoorRrU
import Derived.Test.YtanekbifdedmeaaGreatDoorReqJ
import Derived.Test.YtanekbifdedmeaaGreatDoorGAH
import Derived.Deep.RegionLaw
import Derived.Test.YtanekbifdedmeaaGreatDoorGAK
import Derived.Test.YtanekbifdedmeaaGreatDoorGAJ

/- The lines of a head, as the program keeps them. -/
namespace Go.Proofs.YtanekbifdedmeaaGreatDoor
open Go.RowKit Plain
set_option linter.unusedVariables false

theorem belDrewK {B : Nat} {w w' : World} (h : Below B w w') (k : Nat) : Below B w (w'.drewN k) := ⟨h.os, h.tape, h.output, h.size, h.block⟩
/-- Headers as elements of the program's own list type. -/
def hdlE : Elem Hd where
  E := 45
  S := 52
  n := 2
  bytes := 32
  zero := .agg #[.string ⟨#[]⟩, .string ⟨#[]⟩]
  enc := fun f => [.string f.1, .string f.2]
  hund := Tryz.underlying52
  hinfo := by kernel_rfl
  hz := rfl
  hn := by decide
  hb := by decide
  hlen := fun _ => rfl
  hone := fun x u hu => by simp at hu; rcases hu with rfl | rfl <;> rfl
/-- The block of a head, and what was read so far. -/
def HdP (d : Nat) (st : St) (W : World) : Prop := ∃ a c, Blk W d [.slice a st.rows.length c, .int .i64 st.len, .bool st.told] ∧ OwnR hdrE W (d + 1) (.slice a st.rows.length c) st.rows
theorem HdP.lt {d : Nat} {st : St} {W : World} (h : HdP d st W) : d < W.heap.size := by
  obtain ⟨a, c, h1, _⟩ := h
  exact h1.lt
theorem HdP.call {d : Nat} {st : St} {W W' : World} (h : HdP d st W) (hb : Below W.heap.size W W') : HdP d st W' := by
  obtain ⟨a, c, h1, h2⟩ := h
  exact ⟨a, c, h1.call hb, h2.keep hb⟩
theorem HdP.size {d : Nat} {rows : List Hd} {len len' : Int} {told told' : Bool} {W : World} (h : HdP d ⟨rows, len, told⟩ W) : HdP d ⟨rows, len', told'⟩ ((W.setCell ⟨d, 1, none⟩ (.int .i64 len')).setCell ⟨d, 2, none⟩ (.bool told')) := by
  obtain ⟨a, c, h1, h2⟩ := h
  refine ⟨a, c, ((h1.set 1 (by simp) (.int .i64 len')).set 2 (by simp) (.bool told')), ?_⟩
  exact ownsRow_setCell_below (ownsRow_setCell_below h2 (by simp) _) (by simp) _
theorem HdP.row {d : Nat} {rows : List Hd} {r : Hd} {len : Int} {told : Bool} {W W' : World} {a : Option Addr} {n c : Nat} (h : Blk W d [.slice a n c, .int .i64 len, .bool told]) (hb : Below (d + 1) W W') {v : Value} (ho : OwnR hdrE W' (d + 1) v (rows ++ [r])) : HdP d ⟨rows ++ [r], len, told⟩ (W'.setCell ⟨d, 0, none⟩ v) := by
  obtain ⟨a', c', rfl⟩ := ho.form
  exact ⟨a', c', (h.below hb (Nat.lt_succ_self d)).set 0 (by simp) _, ownsRow_setCell_below ho (by simp) _⟩

/-- What the telling of a size leaves. -/
def SetP (d : Nat) (st : St) (N : Int) (e : Ending) (w' : World) : Prop := (e = .returned (.bool false) ∧ (st.told = true ∨ N < 0)) ∨ (e = .returned (.bool true) ∧ ¬ (st.told = true ∨ N < 0) ∧ HdP d ⟨st.rows, N, true⟩ w')

set_option maxRecDepth 10000 in
set_option maxHeartbeats 4000000 in
theorem setSize_calls (d : Nat) (st : St) (s : ByteArray) (w : World) (h : HdP d st w) (hs : s.size ≤ 2000000) (hv : RrV w) (hP : P10 w) :
    Calls Tryz.prog 159 #[.pointer (some ⟨d, 0, none⟩), .string s] w fun e w' => Below d w w' ∧ SetP d st (numG 20000 s.data.toList) e w' := by
  obtain ⟨rows, len, told⟩ := st
  have hdl := h.lt
  have HN := hide (readDec_calls s 20000 w (by decide) hs hv hP)
  obtain ⟨N, hN⟩ : ∃ N, numG 20000 s.data.toList = N := ⟨_, rfl⟩
  rw [hN] at HN ⊢
  have HH := hide h
  clear h hN hv hP
  go_enter Tryz.func159, Tryz.ntmps159
  go_wp2_with fail
  refine (unhide HN).mono ?_
  rintro e w1 ⟨rfl, hb1⟩
  have hH1 := (unhide HH).call hb1
  have HB1 := hide (show Below d w w1 from hb1.mono (by omega))
  have HH1 := hide hH1
  obtain ⟨a, c, hB, _⟩ := hH1
  have c2 : w1.cell? ⟨d, 2, none⟩ = some (.bool told) := hB.c 2 (by simp)
  have z1 : w1.frozen? ⟨d, 1, none⟩ = false := hB.f 1 (by simp)
  have z2 : w1.frozen? ⟨d, 2, none⟩ = false := hB.f 2 (by simp)
  have c1 : w1.cell? ⟨d, 1, none⟩ = some (.int .i64 len) := hB.c 1 (by simp)
  clear hB HN HH
  unfold numAns
  by_cases hN : N < 0
  · rw [if_pos hN]
    go_wp2_with fail
    go_ret
    exact ⟨unhide HB1, .inl ⟨rfl, .inr hN⟩⟩
  · rw [if_neg hN]
    cases told with
    | true =>
      go_wp2_with fail
      go_ret
      exact ⟨unhide HB1, .inl ⟨rfl, .inl rfl⟩⟩
    | false =>
      go_wp2_with fail
      go_ret
      exact ⟨((unhide HB1).setCell (p := ⟨d, 1, none⟩) (Nat.le_refl _) _).setCell (p := ⟨d, 2, none⟩) (Nat.le_refl _) _, .inr ⟨rfl, by rintro (q | q); exact Bool.noConfusion q; omega, (unhide HH1).size⟩⟩

/-- What a line leaves. -/
def AddP (d : Nat) (R : Option St) (e : Ending) (w' : World) : Prop := match R with
  | none => e = .returned (.bool false)
  | some st => e = .returned (.bool true) ∧ HdP d st w'
theorem hdp_fin {w wx w6 : World} {d b n c : Nat} {a : Option Addr} {rows : List Hd} {r : Hd} {len : Int} {told : Bool} {v : Value} {o : Obj} {u0 u1 : Value}
    (hB : Blk wx d [.slice a n c, .int .i64 len, .bool told]) (hG : ∀ g, (Value.slice a n c).ownBlock = some g → g < w.heap.size) (hdl : d < w.heap.size) (hbd : w.heap.size ≤ b)
    (y0 : (wx.drew.alloc o).cell? ⟨b, 0, none⟩ = some u0) (y1 : (wx.drew.alloc o).cell? ⟨b, 1, none⟩ = some u1) (hB1 : Below w.heap.size w wx)
    (h : OwnR hdlE w6 (d + 1) v (rows ++ [r]) ∧ Below (d + 1) wx.drew w6 ∧ (wx.drew.alloc o).grownBy w6 (Value.slice a n c).ownBlock) :
    HdP d ⟨rows ++ [r], len, told⟩ (w6.setCell ⟨d, 0, none⟩ v) ∧ (w6.setCell ⟨d, 0, none⟩ v).cell? ⟨b, 0, none⟩ = some u0 ∧ (w6.setCell ⟨d, 0, none⟩ v).cell? ⟨b, 1, none⟩ = some u1 ∧ Hid (Below d w (w6.setCell ⟨d, 0, none⟩ v)) := by
  obtain ⟨h1, h2, h3⟩ := h
  have hn : some b ≠ (Value.slice a n c).ownBlock := fun q => by have := hG b q.symm; omega
  have e0 := (h3.cell_far ⟨b, 0, none⟩ (lt_of_cell y0) hn).trans y0
  have e1 := (h3.cell_far ⟨b, 1, none⟩ (lt_of_cell y1) hn).trans y1
  have hne : ∀ i, (⟨d, 0, none⟩ : Addr) ≠ ⟨b, i, none⟩ := fun i q => by have := congrArg Addr.block q; simp at this; omega
  refine ⟨HdP.row (W := wx) hB (show Below (d + 1) wx w6 from ⟨h2.os, h2.tape, h2.output, h2.size, h2.block⟩) h1, (World.cell?_setCell_other _ _ _ _ (hne 0)).trans e0, (World.cell?_setCell_other _ _ _ _ (hne 1)).trans e1, hide ?_⟩
  have h4 : Below d wx w6 := (show Below (d + 1) wx w6 from ⟨h2.os, h2.tape, h2.output, h2.size, h2.block⟩).mono (Nat.le_succ d)
  exact ((hB1.mono (Nat.le_of_lt hdl)).trans h4).setCell (p := ⟨d, 0, none⟩) (Nat.le_refl _) _

set_option maxRecDepth 10000 in
set_option maxHeartbeats 8000000 in
theorem add_calls (d : Nat) (st : St) (s : ByteArray) (w : World) (h : HdP d st w) (hs : s.size ≤ 2000000) (hn : st.rows.length ≤ 1000000) (hv : RrV w) (hP : P10 w) :
    Calls Tryz.prog 136 #[.pointer (some ⟨d, 0, none⟩), .string s] w fun e w' => AddP d (adlF (numG 20000) st s.data.toList) e w' ∧ Below d w w' := by
  have hdl := h.lt
  have hrs := rowF_size s.data.toList
  have hsl : s.data.toList.length = s.size := by simp
  obtain ⟨R, hR⟩ : ∃ R, adlF (numG 20000) st s.data.toList = R := ⟨_, rfl⟩
  rw [hR]
  have hrow : rowF s.data.toList = (bU (lowL (s.data.toList.take (Lib.index s.data.toList [58]).toNat)), bU (trmL (s.data.toList.drop ((Lib.index s.data.toList [58]).toNat + 1)))) := rfl
  unfold adlF at hR
  rcases ix_room [58] s.data.toList with q | ⟨K, q, hK⟩
  · rw [q, if_pos (by decide)] at hR
    subst hR
    have HC := hide (cutS_none s ⟨#[58]⟩ w hs hv q)
    clear hv hP h hrow q hsl hrs
    go_enter Tryz.func136, Tryz.ntmps136
    go_wp2_with fail
    refine (unhide HC).mono ?_
    rintro e w1 ⟨rfl, k, rfl⟩
    go_wp2_with fail
    go_ret
    exact ⟨rfl, belDrewK (Below.refl _ _) k⟩
  · have HC := hide (cutS_yes s ⟨#[58]⟩ K w hs hv q)
    rw [show (⟨#[58]⟩ : ByteArray).size = 1 from rfl] at HC
    rw [q, if_neg (by omega)] at hR
    rw [q, Int.toNat_natCast] at hrow
    have hKs : K < s.size := by
      rw [hsl] at hK
      have : K + 1 ≤ s.size := by simpa using hK
      omega
    have HLW := hide (fun W => lowered_calls (s.extract 0 K) W (by rw [ByteArray.size_extract]; omega))
    have HTR := hide (fun W => (ends_calls (s.extract (K + 1) s.size) W (by rw [ByteArray.size_extract]; omega)).mono (R' := fun e w' => e = .returned (.string (rowF s.data.toList).2) ∧ Below W.heap.size W w') (by
      rintro e w' ⟨⟨t, rfl, ht, htl⟩, hb⟩
      exact ⟨by rw [hrow]; rw [bU_of htl, ext_drop], hb⟩))
    rw [show lowS (s.extract 0 K) = (rowF s.data.toList).1 from by rw [hrow]; unfold lowS; rw [extR_take]] at HLW
    generalize rowF s.data.toList = r at hR HLW HTR hrs
    obtain ⟨nm, vl⟩ := r
    simp only at hR HLW HTR hrs
    rw [hsl] at hrs
    have HV := hide hv
    have HP := hide hP
    have HH := hide h
    have HRS := hide (show nm.size ≤ 2000000 ∧ vl.size ≤ 2000000 by omega)
    have HR := hide hR
    generalize s.extract 0 K = x1 at HC HLW
    generalize s.extract (K + 1) s.size = x2 at HC HTR
    clear hv hP h hrow q hsl hrs hR hK hKs hs
    go_enter Tryz.func136, Tryz.ntmps136
    go_wp2_with fail
    refine (unhide HC).mono ?_
    rintro e w1 ⟨rfl, k, rfl⟩
    obtain ⟨wm, hwm⟩ : ∃ wm, wm = w.drewN k := ⟨_, rfl⟩
    rw [← hwm]
    have hzm : wm.heap.size = w.heap.size := by rw [hwm]; rfl
    have HB0 := hide (show Below w.heap.size w wm from by rw [hwm]; exact belDrewK (Below.refl _ _) k)
    clear hwm HC
    go_wp2_with fail
    refine (unhide HLW wm).mono ?_
    rintro e w1 ⟨rfl, hb1⟩
    go_wp2_with fail
    refine (unhide HTR w1).mono ?_
    rintro e w2 ⟨rfl, hb2⟩
    have hB2 : Below wm.heap.size wm w2 := belOn hb1 hb2
    go_upto_region 5 with fail
    obtain ⟨wx, hwx⟩ : ∃ wx, wx = w2.alloc (.cells #[.string nm, .string vl] 45) := ⟨_, rfl⟩
    obtain ⟨b, hbe⟩ : ∃ b, b = w2.heap.size := ⟨_, rfl⟩
    rw [← hwx, ← hbe]
    have x0 : wx.cell? ⟨b, 0, none⟩ = some (.string nm) := by rw [hwx, hbe]; simp [go_sem]
    have x1 : wx.cell? ⟨b, 1, none⟩ = some (.string vl) := by rw [hwx, hbe]; simp [go_sem]
    have HBX := hide (show Below wm.heap.size wm wx from by rw [hwx]; exact belOn hB2 (bel1 _ _))
    have hbm : wm.heap.size ≤ b := by rw [hbe]; exact hB2.size
    clear hwx hbe hB2 hb1 hb2
    have HB1 := hide (belOn (unhide HB0) (unhide HBX))
    have HH1 := hide ((unhide HH).call (unhide HB1))
    have HV1 := hide ((unhide HV).below (unhide HB1))
    have HP1 := hide ((unhide HP).below (unhide HB1))
    have hzx : w.heap.size ≤ wx.heap.size := (unhide HB1).size
    have hbx : b < wx.heap.size := lt_of_cell x0
    have hR := unhide HR
    have hrs := unhide HRS
    clear HLW HTR HB0 HBX HV HP HR HRS
    by_cases hq : nm.data.toList = clenL
    · have hcl : (nm.toList == [99, 111, 110, 116, 101, 110, 116, 45, 108, 101, 110, 103, 116, 104]) = true := by rw [ByteArray.toList_eq, hq]; rfl
      rw [if_pos hq] at hR
      have HSS := hide (setSize_calls d st vl wx (unhide HH1) hrs.2 (unhide HV1) (unhide HP1))
      have HRR := hide hR
      clear hR HH HH1 HV1 HP1
      go_wp2_with fail
      refine (unhide HSS).mono ?_
      rintro e w3 ⟨hb3, ⟨rfl, hx⟩ | ⟨rfl, hx, hh⟩⟩
      · have HB3 := hide (((unhide HB1).mono (Nat.le_of_lt hdl)).trans hb3)
        have hR := unhide HRR
        rw [if_pos hx] at hR
        have HX := hide hR
        clear hR hx hb3
        go_wp2_with fail
        go_ret
        exact ⟨by rw [← unhide HX]; rfl, unhide HB3⟩
      · have HB3 := hide (((unhide HB1).mono (Nat.le_of_lt hdl)).trans hb3)
        have hR := unhide HRR
        rw [if_neg hx] at hR
        have HX := hide hR
        have HHH := hide hh
        clear hR hx hb3 hh
        go_wp2_with fail
        go_ret
        exact ⟨by rw [← unhide HX]; exact ⟨rfl, unhide HHH⟩, unhide HB3⟩
    · have hcl : (nm.toList == [99, 111, 110, 116, 101, 110, 116, 45, 108, 101, 110, 103, 116, 104]) = false := by rw [ByteArray.toList_eq]; exact beq_eq_false_iff_ne.2 hq
      rw [if_neg hq] at hR
      have HRR := hide hR
      have HOK := hide (fun W => headerOk_calls nm vl W (by omega) (by omega))
      obtain ⟨rows, len, told⟩ := st
      simp only at hn HRR
      obtain ⟨a, c, hB0, hO0⟩ := unhide HH
      have hB := hB0.call (unhide HB1)
      have hO := hO0.keep (unhide HB1)
      have c0 : wx.cell? ⟨d, 0, none⟩ = some (.slice a rows.length c) := hB.c 0 (by simp)
      have HBK := hide hB
      have HO := hide hO
      have HG := hide (show ∀ g, (Value.slice a rows.length c).ownBlock = some g → g < w.heap.size from hO0.lt)
      have hd1 : d + 1 ≤ wx.heap.size := by omega
      clear hR hB hO hB0 hO0 HH HH1 HV1 HP1 hq
      have HOd := hide (show OwnR hdlE wx.drew (d + 1) (.slice a rows.length c) rows from unhide HO)
      have hlen : rows.length < 100000000 := by omega
      have hzd : d + 1 ≤ wx.drew.heap.size := hd1
      have z0 : wx.frozen? ⟨d, 0, none⟩ = false := (unhide HBK).f 0 (by simp)
      have hdx : d < wx.heap.size := by omega
      have e0 := bcl (bel1 wx.drew (.cells #[.string nm, .string vl] 45)) (show d < wx.drew.heap.size from hdx) (show wx.drew.cell? ⟨d, 0, none⟩ = some (.slice a rows.length c) from c0)
      have y0 := bcl (bel1 wx.drew (.cells #[.string nm, .string vl] 45)) (show b < wx.drew.heap.size from hbx) (show wx.drew.cell? ⟨b, 0, none⟩ = some (.string nm) from x0)
      have y1 := bcl (bel1 wx.drew (.cells #[.string nm, .string vl] 45)) (show b < wx.drew.heap.size from hbx) (show wx.drew.cell? ⟨b, 1, none⟩ = some (.string vl) from x1)
      obtain ⟨L, hL⟩ : ∃ L, (rows ++ [(nm, vl)]).length = L := ⟨_, rfl⟩
      have HLQ := hide hL
      clear hL
      have hbd : w.heap.size ≤ b := by omega
      go_upto_region 7 with fail
      go_cut [36] (fun s36 wy => HdP d ⟨rows ++ [(nm, vl)], len, told⟩ wy ∧ wy.cell? ⟨b, 0, none⟩ = some (.string nm) ∧ wy.cell? ⟨b, 1, none⟩ = some (.string vl) ∧ Hid (Below d w wy))
      case first =>
--A{
        go_region_law (refine stepGG (e := hdlE) rfl _ _ rfl (w := wx.drew) (unhide HOd) (by simp [Act.eval]) (nm, vl) rfl _ (by simp [Act.eval]) rfl hlen hzd ?_; intro v' w6 hown6 hb6 hg6; obtain ⟨a6, k6, hv6⟩ := hown6.form; rw [unhide HLQ] at hv6; subst hv6; have HK6 := hide (And.intro hown6 (And.intro hb6 hg6)); have c6 := bcl hb6 (Nat.lt_succ_self d) c0; have z6 : w6.frozen? ⟨d, 0, none⟩ = false := (hb6.frozen (p := ⟨d, 0, none⟩) (Nat.lt_succ_self d)).trans z0; clear hown6 hb6 hg6)
        all_goals (try go_wp2_with fail)
        all_goals go_meet
        all_goals exact hdp_fin (unhide HBK) (unhide HG) hdl hbd y0 y1 (unhide HB1) (unhide HK6)
--}A
      case rest =>
      obtain ⟨wy, rfl⟩ : ∃ wy, wy = wc := ⟨_, rfl⟩
      obtain ⟨hH, y2, y3, HBY⟩ := hcut
      have HHY := hide hH
      obtain ⟨a2, c2, hB2, _⟩ := hH
      have d0 : wy.cell? ⟨d, 0, none⟩ = some (.slice a2 (rows ++ [(nm, vl)]).length c2) := hB2.c 0 (by simp)
      rw [unhide HLQ] at d0
      have hdy := hB2.lt
      have HR := unhide HRR
      rw [unhide HLQ] at HR
      clear HBK HG HO HOd e0 y0 y1 c0 z0 x0 x1 hB2 HRR
      cases hw : hrwB (nm, vl) with
      | false =>
        rw [hw] at HOK HR
        rw [if_neg (by rintro ⟨q, _⟩; cases q)] at HR
        have HX := hide HR
        clear HR hw
        go_wp2_with (go_at_call 74; refine (unhide HOK wy).mono ?_; rintro e w7 ⟨rfl, hb7⟩)
        go_ret
        exact ⟨by rw [← unhide HX]; rfl, (unhide HBY).trans (hb7.mono (Nat.le_of_lt hdy))⟩
      | true =>
        rw [hw] at HOK HR
        by_cases h20 : L ≤ 20
        · rw [if_pos ⟨rfl, h20⟩] at HR
          have HX := hide HR
          clear HR hw
          go_wp2_with (go_at_call 74; refine (unhide HOK wy).mono ?_; rintro e w7 ⟨rfl, hb7⟩; have d7 := bcl hb7 hdy d0; have HB7 := hide hb7; clear hb7)
          go_ret
          exact ⟨by rw [← unhide HX]; exact ⟨retBR (decide_eq_true (by omega)), (unhide HHY).call (unhide HB7)⟩, (unhide HBY).trans ((unhide HB7).mono (Nat.le_of_lt hdy))⟩
        · rw [if_neg (by rintro ⟨_, q⟩; exact h20 q)] at HR
          have HX := hide HR
          clear HR hw
          go_wp2_with (go_at_call 74; refine (unhide HOK wy).mono ?_; rintro e w7 ⟨rfl, hb7⟩; have d7 := bcl hb7 hdy d0; have HB7 := hide hb7; clear hb7)
          go_ret
          exact ⟨by rw [← unhide HX]; exact retBR (decide_eq_false (by omega)), (unhide HBY).trans ((unhide HB7).mono (Nat.le_of_lt hdy))⟩
end Go.Proofs.YtanekbifdedmeaaGreatDoor


/- A response's text comes back, by either reader: mathematics. -/
namespace Go.Proofs.YtanekbifdedmeaaGreatDoor
open Go.RowKit Plain
set_option linter.unusedVariables false

namespace Plain
end Plain
end Go.Proofs.YtanekbifdedmeaaGreatDoor

