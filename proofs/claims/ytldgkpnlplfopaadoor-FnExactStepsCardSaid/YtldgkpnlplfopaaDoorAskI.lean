/- Two trees are asked, by the program. -/
import Derived.Test.YtldgkpnlplfopaaDoorPrfI
import Derived.Test.YtldgkpnlplfopaaDoorTzA
import Derived.Test.YtldgkpnlplfopaaDoorTriR
import Derived.Stop.BytesEq
import Derived.Deep.QuietTactic
import Derived.BigQuiet
namespace Go.Proofs.YtldgkpnlplfopaaDoor
open Go.RowKit Go.Maps Plain
set_option linter.unusedVariables false

theorem encK_cell {x : List UInt8} (h : x.length = 32) : encK x = x.map Extern.Stop.cell := by
  unfold encK
  rw [padK_id h]
  rfl
theorem eqK {x y : List UInt8} (hx : x.length = 32) (hy : y.length = 32) (w : World) : (Op.equalIn 10000 43 (.agg (encK x).toArray) (.agg (encK y).toArray)).run Tryd.prog w = .ok (x == y) w := by
  rw [encK_cell hx, encK_cell hy]
  exact run_equalIn_bytes w 9998 43 5 32 Tryd.underlying43 Tryd.underlying5 (fun w => by kernel_rfl) x y hx hy
theorem belQT {B : Nat} {w w' : World} (h : Below B w w') (k : Nat) : Below B w (w'.drewN k) := ⟨h.os, h.tape, h.output, h.size, h.block⟩
theorem sxL_B (q : Nat × Nat) : sxL q.1 q.2 16 = sxB q := rfl

set_option maxRecDepth 100000 in
set_option maxHeartbeats 8000000 in
theorem askedOf_calls (ba na bb nb : Nat) (kA kB : Nat × Nat → List UInt8) (fa fb : Nat → Nat → Option (List UInt8)) (ha : ∀ q, gdB q → fa q.1 q.2 = some (kA q)) (hb : ∀ q, gdB q → fb q.1 q.2 = some (kB q)) (h32a : ∀ q, (kA q).length = 32) (h32b : ∀ q, (kB q).length = 32) (w : World) (hA : TrAt w ba na fa) (hB : TrAt w bb nb fb) :
    Calls Tryd.prog 25 #[.map (some ba), .map (some bb)] w fun e w' => ∃ v1 v2, e = .returned (.tuple #[v1, v2]) ∧ OwnR brE w' w.heap.size v1 (askB fun q => !(kA q == kB q)) ∧ OwnR brE w' w.heap.size v2 (unlB fun q => !(kA q == kB q)) ∧ Below w.heap.size w w' := by
  have hal := hA.lt
  have hbl := hB.lt
  obtain ⟨d, hd⟩ : ∃ d : Nat × Nat → Bool, (fun q => !(kA q == kB q)) = d := ⟨_, rfl⟩
  have HD := hide (fun q => (show d q = !(kA q == kB q) from by rw [← hd]))
  rw [hd]
  clear hd
  have HLA := hide (fun (W : World) (hW : Below w.heap.size w W) (q : Nat × Nat) (hq : gdB q) => (hA.below hW hal).look hq.1 (gdB_lt hq) (ha q hq))
  have HLB := hide (fun (W : World) (hW : Below w.heap.size w W) (q : Nat × Nat) (hq : gdB q) => (hB.below hW hbl).look hq.1 (gdB_lt hq) (hb q hq))
  have HEQ := hide (fun (W : World) (q : Nat × Nat) => eqK (h32a q) (h32b q) W)
  unfold brV at HLA HLB
  obtain ⟨W0, hW0⟩ : ∃ W0, w.alloc (.cells #[.int .i64 0, .int .u8 0] 39) = W0 := ⟨_, rfl⟩
  have hb0 : Below w.heap.size w W0 := by rw [← hW0]; exact (Below.refl _ _).alloc (Nat.le_refl _) _
  have hO0 : OwnR brE W0 w.heap.size (.slice (some ⟨w.heap.size, 0, none⟩) 1 1) (stB d 0).1 := by
    rw [← hW0]
    refine ⟨by simp [stB, brE], .inr ⟨w.heap.size, 1, #[.int .i64 0, .int .u8 0], rfl, Nat.le_refl _, heap_alloc_new _ _, by simp [stB], by unfold maxLen; omega, by simp [brE], ?_⟩⟩
    simp [stB, brE]
  have HO0 := hide hO0
  have HB0 := hide hb0
  have HW := hide hW0
  clear hA hB ha hb h32a h32b hW0 hb0 hO0
  go_enter Tryd.func25, Tryd.ntmps25
  go_wp2_with fail
  rw [unhide HW]
  go_loopw [4, 5, 6, 7] (fun s4 s5 s6 _ wr => ∃ (i m mu : Nat) (b1 b2 : Option Addr) (d1 d2 : Nat), s6 = .int .i64 i ∧ s4 = .slice b1 m d1 ∧ s5 = .slice b2 mu d2 ∧ i ≤ m ∧ m ≤ 273 ∧ Hid ((stB d i).1.length = m) ∧ Hid (OwnR brE wr w.heap.size (.slice b1 m d1) (stB d i).1) ∧ Hid (OwnR brE wr w.heap.size (.slice b2 mu d2) (stB d i).2) ∧ Hid (ApT (.slice b1 m d1) (.slice b2 mu d2)) ∧ Hid (Below w.heap.size w wr)) (fun _ _ s6 _ _ => 273 - (intOf s6).toNat)
  case atStart => exact ⟨0, 1, 0, _, none, _, 0, rfl, rfl, rfl, by omega, by omega, hide rfl, HO0, hide (ownR_nil _ _ _), hide (fun g _ => by simp [Value.ownBlock]), HB0⟩
  case round =>
    clear HO0 HB0 HW
    obtain ⟨i, m, mu, b1, b2, d1, d2, rfl, rfl, rfl, him, hm, HM, HO, HU, HAP, HBw⟩ := hrel
    by_cases hlt : i < m
    · have hil : i < (stB d i).1.length := by rw [unhide HM]; exact hlt
      have hinv := stB_inv d i (by omega)
      obtain ⟨q, hq⟩ : ∃ q, (stB d i).1[i] = q := ⟨_, rfl⟩
      have hqi : (stB d i).1[i]? = some q := by rw [List.getElem?_eq_getElem hil, hq]
      have hgd : gdB q := hinv.good q (by rw [← hq]; exact List.getElem_mem _)
      obtain ⟨g, e1, hgl, q0, q1⟩ := (unhide HO).at.br i hil
      rw [hq] at q0 q1
      subst e1
      have HSM := hide (fun hd => stB_same d i q hqi hd)
      have HLF := hide (fun hd h2 => stB_leaf d i q hqi hd h2)
      have HMO := hide (fun hd h2 => stB_more d i q hqi hd h2)
      have HIN := hide (fun (hx : i + 1 ≤ (stB d (i + 1)).1.length) => (stB_inv d (i + 1) hx).len hx)
      have hfw := hinv.few
      have HDQ := hide (unhide HD q)
      have hmu : (stB d i).2.length = mu := by
        obtain ⟨x2, y2, f2⟩ := (unhide HU).form
        injection f2 with f2a f2b f2c
        exact f2b.symm
      have hmub : mu ≤ 273 := by omega
      have HMU := hide hmu
      obtain ⟨n1, hn1⟩ : ∃ n1, q.1 = n1 := ⟨_, rfl⟩
      obtain ⟨z, hz⟩ : ∃ z, q.2 = z := ⟨_, rfl⟩
      have hn2 : n1 ≤ 2 := by rw [← hn1]; exact hgd.1
      have HLA1 := hide (fun (W : World) (hW : Below w.heap.size w W) => unhide HLA W hW q hgd)
      have HLB1 := hide (fun (W : World) (hW : Below w.heap.size w W) => unhide HLB W hW q hgd)
      have HEQ1 := hide (fun (W : World) => unhide HEQ W q)
      have HLE := hide (fun W => isLeaf_calls n1 z hn2 W)
      have HSX := hide (fun (h2 : n1 < 2) (W : World) => (show Calls Tryd.prog 44 #[brV n1 z] W fun e w' => ∃ u, e = .returned u ∧ OwnR brE w' W.heap.size u (sxB q) ∧ Below W.heap.size W w' from by
        have := sixteen_calls n1 z h2 (by rw [← hz]; exact gdB_lt16 hgd (by omega)) W
        rw [← hn1, ← hz, sxL_B, hn1, hz] at this
        exact this))
      rw [hn1] at q0 HLA1 HLB1
      rw [hz] at q1 HLA1 HLB1
      have HN1 := hide hn1
      have HQP := hide (show q = (n1, z) from by rw [← hn1, ← hz])
      obtain ⟨r, hr⟩ : ∃ r, (kA q == kB q) = r := ⟨_, rfl⟩
      rw [hr] at HDQ HEQ1
      generalize kA q = xa at HLA1 HEQ1
      generalize kB q = xb at HLB1 HEQ1
      unfold brV at HLE HSX
      have hinf := infB2 (.int .i64 (n1 : Int)) (.int .u8 (z : Int))
      have hall := allB2 (n1 : Int) (z : Int) .i64 .u8
      have hold : (#[.int .i64 0, .int .u8 0] : Array Value).size = (#[.int .i64 (n1 : Int), .int .u8 (z : Int)] : Array Value).size := rfl
      obtain ⟨W4, hW4⟩ : ∃ W4, wr.alloc (.cells #[.int .i64 0, .int .u8 0] 39) = W4 := ⟨_, rfl⟩
      have hnew4 : W4.heap[wr.heap.size]? = some (.cells #[.int .i64 0, .int .u8 0] 39 (0, 0)) := by rw [← hW4]; exact heap_alloc_new _ _
      have hs4 : wr.heap.size < W4.heap.size := by rw [← hW4]; simp
      have HB4 := hide (show Below wr.heap.size wr W4 from by rw [← hW4]; exact (Below.refl _ _).alloc (Nat.le_refl _) _)
      have i0 : (0 : Int) ≤ (i : Int) := by omega
      have i1 : (i : Int) < (m : Int) := by omega
      clear hq hqi hil hgd hinv hn1 hz hr hmu HLA HLB HEQ HD
      go_wp2_with (first
        | (refine wpList_store_any rfl 39 (.tmp 7) (.tmp 19) rfl wr.heap.size #[.int .i64 (n1 : Int), .int .u8 (z : Int)] rfl rfl 39 #[.int .i64 0, .int .u8 0] (by first | exact hnew4 | (rw [hW4]; exact hnew4)) hinf hold hall ?_; intro w5 hrow5 hgr5 hsz5; (try rw [hW4] at hgr5 hsz5)))
      have HX5 := hide ((unhide HB4).grown hgr5 (Nat.le_of_lt hs4) (fun k e => by cases e; exact Nat.le_refl _))
      have hl5 : wr.heap.size < w5.heap.size := by omega
      have D0 : ∀ W : World, Below w5.heap.size w5 W → W.cell? ⟨wr.heap.size, 0, none⟩ = some (.int .i64 (n1 : Int)) := fun W hW => by rw [cell_of_row _ _ 0 _ _ _ ((hW.block _ hl5).trans hrow5)]; rfl
      have D1 : ∀ W : World, Below w5.heap.size w5 W → W.cell? ⟨wr.heap.size, 1, none⟩ = some (.int .u8 (z : Int)) := fun W hW => by rw [cell_of_row _ _ 1 _ _ _ ((hW.block _ hl5).trans hrow5)]; rfl
      have hLA := fun k => unhide HLA1 (w5.drewN k) (belOnT (unhide HBw) (belQT (unhide HX5) k))
      have hLB := fun k => unhide HLB1 (w5.drewN k) (belOnT (unhide HBw) (belQT (unhide HX5) k))
      have hEQ := fun k => unhide HEQ1 (w5.drewN k)
      have p00 := D0 w5 (Below.refl _ _)
      have p01 := D1 w5 (Below.refl _ _)
      have HO0 := hide (fun k => (show OwnR brE (w5.drewN k) w.heap.size (.slice (some ⟨g, 0, none⟩) m d1) (stB d i).1 from (unhide HO).keep (belQT (unhide HX5) k)))
      have HU0 := hide (fun k => (show OwnR brE (w5.drewN k) w.heap.size (.slice b2 mu d2) (stB d i).2 from (unhide HU).keep (belQT (unhide HX5) k)))
      have HF0 := hide (fun k => And.intro (belOnT (unhide HBw) (belQT (unhide HX5) k)) (And.intro (D0 _ (belQT (Below.refl _ _) k)) (And.intro (D1 _ (belQT (Below.refl _ _) k)) (show wr.heap.size < (w5.drewN k).heap.size from hl5))))
      clear hgr5 hsz5 q0 q1 HO HU HB4 hnew4 HX5 HLA1 HLB1 HEQ1 D0 D1 hrow5
      go_quiet (fail)
      have HO5 := hide (unhide HO0 nq)
      have HU5 := hide (unhide HU0 nq)
      obtain ⟨hBd, p0, p1, hl6⟩ := unhide HF0 nq
      have HBd := hide hBd
      clear hLA hLB hEQ hBd HO0 HU0 HF0 p00 p01
      generalize w5.drewN nq = W6 at HO5 HU5 p0 p1 hl6 HBd ⊢
      cases r with
      | true =>
        have hst := unhide HSM (by rw [unhide HDQ]; rfl)
        have HST := hide hst
        have HML := hide (show (stB d (i + 1)).1.length = m from by rw [hst]; exact unhide HM)
        clear hst p0 p1
        go_wp2_with fail
        go_roundw
        case rel => exact ⟨i + 1, m, mu, _, _, _, _, by go_num, rfl, rfl, by omega, by omega, HML, hide (by rw [unhide HST]; exact unhide HO5), hide (by rw [unhide HST]; exact unhide HU5), HAP, HBd⟩
        case measure => simp [intOf]; omega
      | false =>
        have hdt : d q = true := by rw [unhide HDQ]; rfl
        by_cases h2 : n1 = 2
        · have hst := unhide HLF hdt (by rw [unhide HN1]; exact h2)
          have HST := hide hst
          have HML := hide (show (stB d (i + 1)).1.length = m from by rw [hst]; exact unhide HM)
          rw [show decide ((n1 : Int) = 2) = true from by simp; omega] at HLE
          have H2 := hide h2
          clear hst HSM HLF HMO HIN HSX h2
          go_wp2_with fail
          refine (unhide HLE _).mono ?_
          rintro e w6 ⟨rfl, hb6⟩
          have r0 := (hb6.cell (p := ⟨wr.heap.size, 0, none⟩) hl6).trans p0
          have r1 := (hb6.cell (p := ⟨wr.heap.size, 1, none⟩) hl6).trans p1
          have HO6 := hide ((unhide HO5).keep hb6)
          have HU6 := hide ((unhide HU5).keep hb6)
          have HB6 := hide (belOnT (unhide HBd) hb6)
          have hz6 := (unhide HB6).size
          clear p0 p1 hb6 HO5 HU5 HBd HLE
          go_wp2_with (at_builtin; refine appRAt (e := brE) rfl _ _ rfl (unhide HU6) rfl (n1, z) rfl _ rfl rfl (by rw [unhide HMU]; omega) hz6 ?_; intro v7 w7 hO7 hb7 hg7 hw7)
          obtain ⟨a7, c7, hv7⟩ := hO7.form
          have ho7 : OwnR brE w7 w.heap.size (.slice (some ⟨g, 0, none⟩) m d1) (stB d i).1 := keptT ((unhide HO6).keep ((Below.refl _ _).alloc (Nat.le_refl _) _)) (unhide HAP).symm hg7
          have hap7 : ApT (.slice (some ⟨g, 0, none⟩) m d1) v7 := ((unhide HAP).symm.next (unhide HO6) (Nat.le_succ _) hw7).symm
          rw [List.length_append, unhide HMU, List.length_singleton] at hv7
          subst hv7
          have HO7 := hide ho7
          have HU7 := hide hO7
          have HAP7 := hide hap7
          have HB7 := hide ((unhide HB6).trans hb7)
          clear ho7 hO7 hap7 hb7 hg7 hw7 HO6 HU6 HB6 r0 r1
          go_wp2_with fail
          go_roundw
          case rel => exact ⟨i + 1, m, mu + 1, _, _, _, _, by go_num, rfl, rfl, by omega, by omega, HML, hide (by rw [unhide HST]; exact unhide HO7), hide (by rw [unhide HST]; simp only; rw [unhide HQP]; exact unhide HU7), HAP7, HB7⟩
          case measure => simp [intOf]; omega
        · have hlt2 : n1 < 2 := by omega
          have hst := unhide HMO hdt (by rw [unhide HN1]; exact h2)
          have HST := hide hst
          have hml2 : (stB d (i + 1)).1.length = m + 16 := by rw [hst]; simp only [List.length_append, sxB_len]; rw [unhide HM]
          have hm16 : m + 16 ≤ 273 := by
            have := unhide HIN (by rw [hml2]; omega)
            omega
          have HML := hide hml2
          rw [show decide ((n1 : Int) = 2) = false from by simp; omega] at HLE
          have HSX1 := hide (unhide HSX hlt2)
          clear hst HSM HLF HMO HIN HSX hml2 h2
          go_wp2_with fail
          refine (unhide HLE _).mono ?_
          rintro e w6 ⟨rfl, hb6⟩
          have r0 := (hb6.cell (p := ⟨wr.heap.size, 0, none⟩) hl6).trans p0
          have r1 := (hb6.cell (p := ⟨wr.heap.size, 1, none⟩) hl6).trans p1
          have HO6 := hide ((unhide HO5).keep hb6)
          have HU6 := hide ((unhide HU5).keep hb6)
          have HB6 := hide (belOnT (unhide HBd) hb6)
          clear p0 p1 hb6 HO5 HU5 HBd HLE
          go_wp2_with fail
          refine (unhide HSX1 _).mono ?_
          rintro e w7 ⟨v7, rfl, o7, hb7⟩
          obtain ⟨a7, c7, hv7⟩ := o7.form
          rw [sxB_len] at hv7
          subst hv7
          have HO7 := hide ((unhide HO6).keep hb7)
          have HU7 := hide ((unhide HU6).keep hb7)
          have HB7 := hide (belOnT (unhide HB6) hb7)
          have HY7 := hide o7
          have hz7 := (unhide HB7).size
          have hlb : (stB d i).1.length + 16 < 100000000 := by rw [unhide HM]; omega
          clear o7 hb7 HO6 HU6 HB6 HSX1 r0 r1
          go_wp2_with (at_builtin; refine appAt (e := brE) rfl _ _ rfl (unhide HO7) rfl a7 16 c7 rfl (sxB_len q) (unhide HY7).at (unhide HY7).adG hlb hz7 ?_; intro v8 w8 hO8 hb8 hg8 hw8)
          obtain ⟨a8, c8, hv8⟩ := hO8.form
          have hu8 : OwnR brE w8 w.heap.size (.slice b2 mu d2) (stB d i).2 := keptT (unhide HU7) (unhide HAP) hg8
          have hap8 : ApT v8 (.slice b2 mu d2) := (unhide HAP).next (unhide HU7) (Nat.le_refl _) hw8
          rw [List.length_append, unhide HM, sxB_len] at hv8
          subst hv8
          have HO8 := hide hO8
          have HU8 := hide hu8
          have HAP8 := hide hap8
          have HB8 := hide ((unhide HB7).trans hb8)
          clear hO8 hu8 hap8 hb8 hg8 hw8 HO7 HU7 HB7 HY7
          go_wp2_with fail
          go_roundw
          case rel => exact ⟨i + 1, m + 16, mu, _, _, _, _, by go_num, rfl, rfl, by omega, by omega, HML, hide (by rw [unhide HST]; exact unhide HO8), hide (by rw [unhide HST]; exact unhide HU8), HAP8, HB8⟩
          case measure => simp [intOf]; omega
    · obtain rfl : i = m := by omega
      have hfin := stB_fin d i (unhide HM)
      have h1 := unhide HO
      have h2 := unhide HU
      rw [hfin] at h1 h2
      have H1 := hide h1
      have H2 := hide h2
      clear h1 h2 hfin HO HU
      go_wp2_with fail
      exact bodyPost_ret (v := .tuple #[_, _]) (by simp [results, Tryd.results25, go_sem]) rfl ⟨_, _, rfl, unhide H1, unhide H2, unhide HBw⟩
end Go.Proofs.YtldgkpnlplfopaaDoor
