/- The program's reader of a message: its lines, and the head of a message. -/
import Derived.Test.YtanekbifdedmeaaGreatDoorGAL
namespace Go.Proofs.YtanekbifdedmeaaGreatDoor
open Go.RowKit Plain
set_option linter.unusedVariables false

namespace Plain
/-- A reader's block: its text, and where it stands. -/
structure RdA (b : Nat) (s : ByteArray) (p : Nat) (W : World) : Prop where
  c0 : W.cell? ⟨b, 0, none⟩ = some (.string s)
  c1 : W.cell? ⟨b, 1, none⟩ = some (.int .i64 p)
  z1 : W.frozen? ⟨b, 1, none⟩ = false
theorem RdA.call {b p : Nat} {s : ByteArray} {W W' : World} (h : RdA b s p W) (hb : Below W.heap.size W W') : RdA b s p W' := by
  have hl := lt_of_cell h.c0
  exact ⟨bcl hb hl h.c0, bcl hb hl h.c1, (hb.frozen (p := ⟨b, 1, none⟩) hl).trans h.z1⟩
theorem RdA.moved {b p q : Nat} {s : ByteArray} {W W' : World} (h : RdA b s p W) (ho : OnlyAt ⟨b, 1, none⟩ W W') (hc : W'.cell? ⟨b, 1, none⟩ = some (.int .i64 q)) : RdA b s q W' := by
  have hl := lt_of_cell h.c0
  exact ⟨(ho.cell ⟨b, 0, none⟩ hl (by simp)).trans h.c0, hc, (ho.frozen ⟨b, 1, none⟩ hl).trans h.z1⟩
/-- What is left of the text. -/
def restL (s : ByteArray) (p : Nat) : List UInt8 := s.data.toList.drop p
/-- What reading a line leaves. -/
def LinP (b : Nat) (s : ByteArray) (p : Nat) (w : World) (e : Ending) (w' : World) : Prop := OnlyAt ⟨b, 1, none⟩ w w' ∧
  ((Lib.index (restL s p) [13, 10] = -1 ∧ e = .returned (.tuple #[.string (s.extract p s.size), .bool false]) ∧ RdA b s p w') ∨
   ∃ t : ByteArray, Lib.index (restL s p) [13, 10] = t.size ∧ t.data.toList = (restL s p).take t.size ∧ e = .returned (.tuple #[.string t, .bool true]) ∧ p + t.size + 2 ≤ s.size ∧ RdA b s (p + t.size + 2) w')
end Plain

set_option maxRecDepth 10000 in
set_option maxHeartbeats 4000000 in
theorem line_calls (b : Nat) (s : ByteArray) (p : Nat) (w : World) (h : RdA b s p w) (hs : s.size ≤ 2000000) (hp : p ≤ s.size) (hv : RrV w) :
    Calls Tryz.prog 75 #[.pointer (some ⟨b, 0, none⟩)] w (LinP b s p w) := by
  have HR := hide (rest_ok b 0 s p w h.c0 h.c1 (by omega) hp)
  have HH := hide h
  have hbl := lt_of_cell h.c0
  have HX := hide (show (s.extract p s.size).data.toList = restL s p from ext_drop s p)
  have hxs : (s.extract p s.size).size = s.size - p := by rw [ByteArray.size_extract]; omega
  rcases ix_room [13, 10] (restL s p) with q | ⟨K, q, hK⟩
  · have HC := hide (fun k => cutS_none (s.extract p s.size) ⟨#[13, 10]⟩ (w.drewN k) (by omega) (hv.below (belDrewK (Below.refl _ _) k)) (by rw [unhide HX]; exact q))
    have HQ := hide q
    clear hv q h
    go_enter Tryz.func75, Tryz.ntmps75
    go_wp2_with fail
    refine (unhide HR).mono ?_
    rintro e w1 ⟨rfl, k, rfl⟩
    go_wp2_with fail
    refine (unhide HC k).mono ?_
    rintro e w2 ⟨rfl, k2, rfl⟩
    go_wp2_with fail
    go_ret2
    exact ⟨(OnlyAt.refl _ _).drewN (k + k2), .inl ⟨unhide HQ, rfl, (unhide HH).call (belDrewK (Below.refl _ _) (k + k2))⟩⟩
  · have hrl : (restL s p).length = s.size - p := by unfold restL; rw [List.length_drop]; simp
    have hKs : p + K + 2 ≤ s.size := by
      rw [hrl] at hK
      have : K + 2 ≤ s.size - p := hK
      omega
    have HC := hide (fun k => cutS_yes (s.extract p s.size) ⟨#[13, 10]⟩ K (w.drewN k) (by omega) (hv.below (belDrewK (Below.refl _ _) k)) (by rw [unhide HX]; exact q))
    have ht1 : ((s.extract p s.size).extract 0 K).size = K := by rw [ByteArray.size_extract]; omega
    have ht2 : ((s.extract p s.size).extract 0 K).data.toList = (restL s p).take K := by rw [extR_take, unhide HX]
    generalize (s.extract p s.size).extract 0 K = t at HC ht1 ht2
    subst ht1
    have HT := hide ht2
    have HQ := hide q
    have HTK := hide (fun W hb => take_ok b 0 s p ((t.size : Int) + 2) W (bcl hb hbl h.c0) (bcl hb hbl h.c1) ((hb.frozen (p := ⟨b, 1, none⟩) hbl).trans h.z1) (by omega) hp (by omega) (by omega))
    clear hv q h ht2
    go_enter Tryz.func75, Tryz.ntmps75
    go_wp2_with fail
    refine (unhide HR).mono ?_
    rintro e w1 ⟨rfl, k, rfl⟩
    go_wp2_with fail
    refine (unhide HC k).mono ?_
    rintro e w2 ⟨rfl, k2, rfl⟩
    go_wp2_with fail
    refine (unhide HTK (w.drewN (k + k2)) (belDrewK (Below.refl _ _) (k + k2))).mono ?_
    rintro e w3 ⟨rfl, ho, hc⟩
    have HO := hide (((OnlyAt.refl _ w).drewN (k + k2)).trans ho)
    have HC3 := hide hc
    clear ho hc
    go_wp2_with fail
    go_ret2
    exact ⟨unhide HO, .inr ⟨t, unhide HQ, unhide HT, rfl, hKs, (unhide HH).moved (unhide HO) (by rw [unhide HC3, show ((p : Int) + ((t.size : Int) + 2)) = ((p + t.size + 2 : Nat) : Int) from by omega])⟩⟩

theorem Plain.OnlyAt.next {a : Addr} {u v w : World} {B : Nat} (h : OnlyAt a u v) (k : Below B v w) (hB : u.heap.size ≤ B) : OnlyAt a u w :=
  ⟨k.os.trans h.os, k.tape.trans h.tape, k.output.trans h.output, Nat.le_trans h.size k.size, fun i hi hn => (k.block i (by omega)).trans (h.block i hi hn),
   fun q hq hn => (k.cell (by omega)).trans (h.cell q hq hn), fun q hq => (k.frozen (by omega)).trans (h.frozen q hq)⟩
theorem Plain.RdA.low {b p B : Nat} {s : ByteArray} {W W' : World} (h : RdA b s p W) (hb : Below B W W') (hB : b < B) : RdA b s p W' :=
  ⟨bcl hb hB h.c0, bcl hb hB h.c1, (hb.frozen (p := ⟨b, 1, none⟩) hB).trans h.z1⟩
theorem own_otherR {α : Type} {e : Elem α} {W W' : World} {B : Nat} {v : Value} {xs : List α} (h : OwnR e W B v xs) (hh : ∀ g, v.ownBlock = some g → W'.heap[g]? = W.heap[g]?) : OwnR e W' B v xs := by
  refine ⟨h.1, ?_⟩
  rcases h.2 with ⟨a, c⟩ | ⟨g, cap, cur, rfl, c, d, r⟩
  · exact .inl ⟨a, c⟩
  · exact .inr ⟨g, cap, cur, rfl, c, (hh g rfl).trans d, r⟩
theorem own_lowR {α : Type} {e : Elem α} {W : World} {B B' : Nat} {v : Value} {xs : List α} (h : OwnR e W B v xs) (hB : B' ≤ B) : OwnR e W B' v xs := by
  refine ⟨h.1, ?_⟩
  rcases h.2 with ⟨a, c⟩ | ⟨g, cap, cur, rfl, c, d, r⟩
  · exact .inl ⟨a, c⟩
  · exact .inr ⟨g, cap, cur, rfl, Nat.le_trans hB c, d, r⟩
theorem Plain.Blk.onlyR {W W' : World} {b d : Nat} {vs : List Value} (h : Blk W d vs) (ho : OnlyAt ⟨b, 1, none⟩ W W') (hd : d ≠ b) : Blk W' d vs :=
  ⟨Nat.lt_of_lt_of_le h.lt ho.size, fun i hi => (ho.cell ⟨d, i, none⟩ h.lt (fun q => hd (congrArg Addr.block q))).trans (h.c i hi), fun i hi => (ho.frozen ⟨d, i, none⟩ h.lt).trans (h.f i hi)⟩
theorem HdP.onlyR {W W' : World} {b d : Nat} {st : St} (h : HdP d st W) (ho : OnlyAt ⟨b, 1, none⟩ W W') (hd : b < d) : HdP d st W' := by
  obtain ⟨a, c, h1, h2⟩ := h
  refine ⟨a, c, h1.onlyR ho (by omega), own_otherR h2 fun g hg => ?_⟩
  have h3 := World.ownsRow.lt h2 g hg
  exact ho.block g h3.2 (by show g ≠ b; omega)

namespace Plain
/-- What reading a head leaves. -/
def HeadP (b : Nat) (s : ByteArray) (R : Option (St × List UInt8)) (w : World) (e : Ending) (w' : World) : Prop := OnlyAt ⟨b, 1, none⟩ w w' ∧ match R with
  | none => ∃ at' : Int, e = .returned (.tuple #[.agg #[.slice none 0 0, .int .i64 0, .bool false], .iface 66 (.agg #[.int .i64 3, .int .i64 at'])])
  | some (st, bd) => ∃ a c q, e = .returned (.tuple #[.agg #[.slice a st.rows.length c, .int .i64 st.len, .bool st.told], .nilIface]) ∧ OwnR hdrE w' w.heap.size (.slice a st.rows.length c) st.rows ∧ RdA b s q w' ∧ q ≤ s.size ∧ restL s q = bd
theorem hdF_step (num : List UInt8 → Int) (f : Nat) (s : List UInt8) (st : St) : hdF num (f + 1) s st =
    if Lib.index s [13, 10] < 0 then none
    else if Lib.index s [13, 10] = 0 then some (st, s.drop 2)
    else match adlF num st (s.take (Lib.index s [13, 10]).toNat) with
      | none => none
      | some st' => hdF num f (s.drop ((Lib.index s [13, 10]).toNat + 2)) st' := rfl
theorem adl_rows {num : List UInt8 → Int} {st st' : St} {l : List UInt8} (h : adlF num st l = some st') (hr : st.rows.length ≤ 20) : st'.rows.length ≤ 20 := by
  unfold adlF at h
  split at h
  · cases h
  · split at h
    · split at h
      · cases h
      · cases h; exact hr
    · split at h
      · rename_i q; cases h; exact q.2
      · cases h
end Plain

theorem Plain.Blk.three {W : World} {b : Nat} {x y z : Value} (h : Blk W b [x, y, z]) : W.cell? ⟨b, 0, none⟩ = some x ∧ W.cell? ⟨b, 1, none⟩ = some y ∧ W.cell? ⟨b, 2, none⟩ = some z ∧ W.frozen? ⟨b, 0, none⟩ = false ∧ W.frozen? ⟨b, 1, none⟩ = false ∧ W.frozen? ⟨b, 2, none⟩ = false :=
  ⟨h.c 0 (by simp), h.c 1 (by simp), h.c 2 (by simp), h.f 0 (by simp), h.f 1 (by simp), h.f 2 (by simp)⟩
theorem out3_below (W : World) (n : Nat) (u v x : Value) : Below n W (((W.setCell ⟨n, 0, none⟩ u).setCell ⟨n, 1, none⟩ v).setCell ⟨n, 2, none⟩ x) :=
  (((Below.refl n W).setCell (p := ⟨n, 0, none⟩) (Nat.le_refl _) _).setCell (p := ⟨n, 1, none⟩) (Nat.le_refl _) _).setCell (p := ⟨n, 2, none⟩) (Nat.le_refl _) _
theorem out3_own {W : World} {n B : Nat} {u v x z : Value} {xs : List Hd} (h : OwnR hdrE W (n + 1 + B) z xs) : OwnR hdrE (((W.setCell ⟨n, 0, none⟩ u).setCell ⟨n, 1, none⟩ v).setCell ⟨n, 2, none⟩ x) (n + 1 + B) z xs :=
  ownsRow_setCell_below (ownsRow_setCell_below (ownsRow_setCell_below h (by simp <;> omega) _) (by simp <;> omega) _) (by simp <;> omega) _
theorem out3_facts {W w : World} {x y z : Value} {a : Addr} (h : Blk W w.heap.size [x, y, z]) (ho : OnlyAt a w W) (u v k : Value) :
    (((W.setCell ⟨w.heap.size, 0, none⟩ u).setCell ⟨w.heap.size, 1, none⟩ v).setCell ⟨w.heap.size, 2, none⟩ k).cell? ⟨w.heap.size, 0, none⟩ = some u ∧
    (((W.setCell ⟨w.heap.size, 0, none⟩ u).setCell ⟨w.heap.size, 1, none⟩ v).setCell ⟨w.heap.size, 2, none⟩ k).cell? ⟨w.heap.size, 1, none⟩ = some v ∧
    (((W.setCell ⟨w.heap.size, 0, none⟩ u).setCell ⟨w.heap.size, 1, none⟩ v).setCell ⟨w.heap.size, 2, none⟩ k).cell? ⟨w.heap.size, 2, none⟩ = some k ∧
    Hid (OnlyAt a w (((W.setCell ⟨w.heap.size, 0, none⟩ u).setCell ⟨w.heap.size, 1, none⟩ v).setCell ⟨w.heap.size, 2, none⟩ k)) := by
  obtain ⟨r0, r1, r2, _⟩ := (((h.set 0 (by simp) u).set 1 (by simp) v).set 2 (by simp) k).three
  exact ⟨r0, r1, r2, hide (ho.next (out3_below _ _ _ _ _) (Nat.le_refl _))⟩
/-- Where a reader stands. -/
def Plain.atR (W : World) (b : Nat) : Nat := match W.cell? ⟨b, 1, none⟩ with
  | some (.int .i64 p) => p.toNat
  | _ => 0

set_option maxRecDepth 10000 in
set_option maxHeartbeats 8000000 in
theorem head_calls (b : Nat) (s : ByteArray) (p : Nat) (w w0 : World) (h : RdA b s p w) (hs : s.size ≤ 2000000) (hp : p ≤ s.size) (hb0 : Below w0.heap.size w0 w) (hbl : w0.heap.size ≤ b) (hv : RrV w0) (hP : P10 w0) :
    Calls Tryz.prog 117 #[.pointer (some ⟨b, 0, none⟩)] w (HeadP b s (hdF (numG 20000) ((restL s p).length + 1) (restL s p) ⟨[], 0, false⟩) w) := by
  obtain ⟨R, hR⟩ : ∃ R, hdF (numG 20000) ((restL s p).length + 1) (restL s p) ⟨[], 0, false⟩ = R := ⟨_, rfl⟩
  rw [hR]
  have hbw : b < w.heap.size := lt_of_cell h.c0
  obtain ⟨W2, hW2⟩ : ∃ W2, W2 = (w.alloc (.cells #[.slice none 0 0, .int .i64 0, .bool false] 142)).alloc (.cells #[.slice none 0 0, .int .i64 0, .bool false] 142) := ⟨_, rfl⟩
  have hb2 : Below w.heap.size w W2 := by rw [hW2]; exact belOn (bel1 _ _) (bel1 _ _)
  have hz2 : W2.heap.size = w.heap.size + 2 := by rw [hW2]; simp
  have hB2 : Blk W2 w.heap.size [.slice none 0 0, .int .i64 0, .bool false] := by rw [hW2]; exact (Blk.new w _ _).alloc _
  have hD2 : HdP (w.heap.size + 1) ⟨[], 0, false⟩ W2 := by
    refine ⟨none, 0, ?_, ownR_nil hdrE _ _⟩
    have := Blk.new (w.alloc (.cells #[.slice none 0 0, .int .i64 0, .bool false] 142)) [.slice none 0 0, .int .i64 0, .bool false] 142
    rw [show (w.alloc (.cells #[.slice none 0 0, .int .i64 0, .bool false] 142)).heap.size = w.heap.size + 1 from by simp] at this
    rw [hW2]
    exact this
  have HR := hide hR
  have HA2 := hide (h.call hb2)
  have HO2 := hide (OnlyAt.of_below (a := ⟨b, 1, none⟩) hb2)
  have HB2 := hide hB2
  have HD2 := hide hD2
  have HW2 := hide hW2.symm
  have HB0 := hide hb0
  have HV := hide hv
  have HP := hide hP
  clear h hR hb2 hB2 hD2 hW2 hb0 hv hP hz2
  go_enter Tryz.func117, Tryz.ntmps117
  go_wp2_with fail
  rw [unhide HW2]
  go_loopw [5] (fun s5 wr => ∃ (st : St) (q f : Nat), q ≤ s.size ∧ st.rows.length ≤ 20 ∧ Hid ((restL s q).length < f) ∧ Hid (hdF (numG 20000) f (restL s q) st = R) ∧ Hid (HdP (w.heap.size + 1) st wr) ∧ Hid (RdA b s q wr) ∧ Hid (OnlyAt ⟨b, 1, none⟩ w wr) ∧ Hid (Blk wr w.heap.size [.slice none 0 0, .int .i64 0, .bool false])) (fun _ wr => s.size - atR wr b)
  case atStart => exact ⟨⟨[], 0, false⟩, p, _, hp, by simp, hide (Nat.lt_succ_self _), HR, HD2, HA2, HO2, HB2⟩
  case round =>
    clear HR HD2 HA2 HO2 HB2 HW2
    obtain ⟨st, q, f, hq, hst, HF, HR, HD, HA, HO, HB⟩ := hrel
    obtain ⟨wm, rfl⟩ : ∃ wm, wm = wr := ⟨_, rfl⟩
    have hA := unhide HA
    have c0 := hA.c0
    have c1 := hA.c1
    have hBW := hide ((unhide HB0).trans ((unhide HO).below hbl (unhide HB0).size))
    have HL := hide (line_calls b s q wm hA hs hq ((unhide HV).below (unhide hBW)))
    have hm : atR wm b = q := by unfold atR; rw [c1]; exact Int.toNat_natCast q
    clear hA
    go_wp2_with fail
    refine (unhide HL).mono ?_
    rintro e w1 ⟨ho1, ⟨hi, rfl, hA1⟩ | ⟨t, hi, htl, rfl, hle, hA1⟩⟩
    · have HO1 := hide ((unhide HO).trans ho1)
      obtain ⟨g, rfl⟩ : ∃ g, f = g + 1 := ⟨f - 1, by have := unhide HF; omega⟩
      have hR := unhide HR
      rw [hdF_step, hi, if_pos (by decide)] at hR
      have HX := hide hR
      have hB1 := (unhide HB).onlyR ho1 (by omega)
      obtain ⟨b0, b1, b2, z0, z1, z2⟩ := hB1.three
      obtain ⟨r0, r1, r2, HZ⟩ := out3_facts hB1 (unhide HO1) (.slice none 0 0) (.int .i64 0) (.bool false)
      clear hR hi hB1 hA1 ho1 HL HA HD HB HR HF c0 c1
      go_wp2_with fail
      exact bodyPost_ret (v := .tuple #[.agg #[.slice none 0 0, .int .i64 0, .bool false], .iface 66 (.agg #[.int .i64 3, .int .i64 q])]) (by simp [results, Tryz.results117, go_sem, r0, r1, r2]) rfl ⟨unhide HZ, by rw [← unhide HX]; exact ⟨_, rfl⟩⟩
    · by_cases h0 : t.size = 0
      · obtain rfl : t = ⟨#[]⟩ := by
          apply ByteArray.ext
          apply Array.toList_inj.1
          exact List.length_eq_zero_iff.1 (by rw [len_dataR]; exact h0)
        have HO1 := hide ((unhide HO).trans ho1)
        obtain ⟨g, rfl⟩ : ∃ g, f = g + 1 := ⟨f - 1, by have := unhide HF; omega⟩
        have hR := unhide HR
        rw [hdF_step, hi, if_neg (by decide), if_pos (by rfl)] at hR
        have HX := hide hR
        have hB1 := (unhide HB).onlyR ho1 (by omega)
        obtain ⟨b0, b1, b2, z0, z1, z2⟩ := hB1.three
        have hD1 := (unhide HD).onlyR ho1 (by omega)
        obtain ⟨a, c, hE, hown⟩ := hD1
        have HOWN := hide hown
        obtain ⟨e0, e1, e2, _, _, _⟩ := hE.three
        obtain ⟨r0, r1, r2, HZ⟩ := out3_facts hB1 (unhide HO1) (.slice a st.rows.length c) (.int .i64 st.len) (.bool st.told)
        have HA2 := hide hA1
        have hbn : b < w.heap.size := hbw
        have HLE := hide (show q + 0 + 2 ≤ s.size from hle)
        clear hR hi hB1 hA1 ho1 HL HA HD HB HR HF c0 c1 hE hown htl h0 hle hm
        go_wp2_with fail
        exact bodyPost_ret (v := .tuple #[.agg #[.slice a st.rows.length c, .int .i64 st.len, .bool st.told], .nilIface]) (by simp [results, Tryz.results117, go_sem, r0, r1, r2]) rfl ⟨unhide HZ, by
          rw [← unhide HX]
          refine ⟨a, c, q + 0 + 2, rfl, ?_, ?_, unhide HLE, by unfold restL; rw [List.drop_drop]⟩
          · exact own_lowR (out3_own (unhide HOWN)) (by omega)
          · exact (unhide HA2).low (out3_below _ _ _ _ _) hbn⟩
      · have HO1 := hide ((unhide HO).trans ho1)
        obtain ⟨g, rfl⟩ : ∃ g, f = g + 1 := ⟨f - 1, by have := unhide HF; omega⟩
        have hR := unhide HR
        rw [hdF_step, hi, if_neg (by omega), if_neg (by omega), Int.toNat_natCast, ← htl] at hR
        have hB1 := (unhide HB).onlyR ho1 (by omega)
        have hD1 := (unhide HD).onlyR ho1 (by omega)
        have hts : t.size ≤ 2000000 := by omega
        have HW1 := hide ((unhide HB0).trans ((unhide HO1).below hbl (unhide HB0).size))
        have HADD := hide (add_calls (w.heap.size + 1) st t w1 hD1 hts (by omega) ((unhide HV).below (unhide HW1)) ((unhide HP).below (unhide HW1)))
        have ht0 := (emp_no (t := t) (by omega)).2
        have HA1 := hide hA1
        have HB1 := hide hB1
        have HLE := hide hle
        have HT0 := hide h0
        have hrl : (restL s (q + t.size + 2)).length < g := by
          have := unhide HF
          unfold restL at this ⊢
          rw [List.length_drop, len_dataR] at this ⊢
          omega
        have HRL := hide hrl
        have hdr : (restL s q).drop (t.size + 2) = restL s (q + t.size + 2) := by unfold restL; rw [List.drop_drop, Nat.add_assoc]
        rw [hdr] at hR
        have hR' := hide hR
        clear hR hi hB1 hA1 ho1 HL HA HD HB HR HF c0 c1 htl h0 hle hD1 hrl hdr hts
        go_wp2_with fail
        refine (unhide HADD).mono ?_
        cases hadl : adlF (numG 20000) st t.data.toList with
        | none =>
          rintro e w2 ⟨rfl, hb2⟩
          have hR := unhide hR'
          rw [hadl] at hR
          have HX := hide hR
          have hB2 := (unhide HB1).below hb2 (Nat.lt_succ_self _)
          have HO2 := hide ((unhide HO1).next hb2 (Nat.le_succ _))
          obtain ⟨b0, b1, b2, z0, z1, z2⟩ := hB2.three
          obtain ⟨r0, r1, r2, HZ⟩ := out3_facts hB2 (unhide HO2) (.slice none 0 0) (.int .i64 0) (.bool false)
          clear hR hb2 hR' hadl hB2 hm
          go_wp2_with fail
          exact bodyPost_ret (v := .tuple #[.agg #[.slice none 0 0, .int .i64 0, .bool false], .iface 66 (.agg #[.int .i64 3, .int .i64 q])]) (by simp [results, Tryz.results117, go_sem, r0, r1, r2]) rfl ⟨unhide HZ, by rw [← unhide HX]; exact ⟨_, rfl⟩⟩
        | some st' =>
          rintro e w2 ⟨⟨rfl, hh⟩, hb2⟩
          have hR := unhide hR'
          rw [hadl] at hR
          have HX := hide hR
          have hst' := adl_rows hadl hst
          have HB2 := hide ((unhide HB1).below hb2 (Nat.lt_succ_self _))
          have HO2 := hide ((unhide HO1).next hb2 (Nat.le_succ _))
          have HA2 := hide ((unhide HA1).low hb2 (by omega))
          have HD2 := hide hh
          have hm2 : atR w2 b = q + t.size + 2 := by unfold atR; rw [(unhide HA2).c1]; exact Int.toNat_natCast _
          have HM2 := hide hm2
          have HM := hide hm
          clear hR hb2 hR' hadl hm hh HB1 HO1 HA1 hm2
          go_wp2_with fail
          go_roundw
          case rel => exact ⟨st', q + t.size + 2, g, by have := unhide HLE; omega, hst', HRL, HX, HD2, HA2, HO2, HB2⟩
          case measure => rw [unhide HM2, unhide HM]; have := unhide HLE; omega
end Go.Proofs.YtanekbifdedmeaaGreatDoor
