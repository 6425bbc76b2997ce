/- Texts of one kind, put together. -/
import Derived.Test.YtldgkpnlplfopaaDoorStI
import Derived.Test.YtldgkpnlplfopaaDoorWzB
import Derived.Test.YtldgkpnlplfopaaDoorTriR
import Derived.Test.YtldgkpnlplfopaaDoorLzA
import Derived.Test.YtldgkpnlplfopaaDoorRzE

/- Steps by the program. -/
namespace Go.Proofs.YtldgkpnlplfopaaDoor
open Go.RowKit Go.Maps Plain
set_option linter.unusedVariables false

/-- What the program's Steps answers. -/
def Plain.StpI (A B : List ByteArray) (w : World) (e : Ending) (w' : World) : Prop := ∃ v1 v2 v3, e = .returned (.tuple #[v1, v2, v3, .bool (stOk A B)]) ∧ Tri w' w.heap.size v1 v2 v3 (asL A B) (mrL A B) (leL A B) ∧ Below w.heap.size w w'

set_option maxRecDepth 10000 in
set_option maxHeartbeats 2000000 in
theorem impl_StepsNo (a : Option Addr) (n c : Nat) (A : List ByteArray) (a' : Option Addr) (n' c' : Nat) (B : List ByteArray) (w : World) (h : TxtsAt w a n A) (h' : TxtsAt w a' n' B) (hno : stOk A B = false) :
    Calls Tryd.prog 11 #[.slice a n c, .slice a' n' c'] w (StpI A B w) := by
  unfold StpI asL mrL leL
  rw [hno]
  simp only [Bool.false_eq_true, if_false]
  have HA := hide (readSet_calls a n c A w h)
  have HB := hide (fun (W : World) (hW : Below w.heap.size w W) => readSet_calls a' n' c' B W (h'.below hW))
  unfold stOk at hno
  clear h h'
  have HT := hide (fun W => (show Tri W w.heap.size (.slice none 0 0) (.slice none 0 0) (.slice none 0 0) [] [] [] from ⟨ownR_nil _ _ _, ownR_nil _ _ _, ownR_nil _ _ _, fun g hg => by simp [Value.ownBlock] at hg, fun g hg => by simp [Value.ownBlock] at hg, fun g hg => by simp [Value.ownBlock] at hg⟩))
  cases hA : setB A with
  | false =>
    rw [hA] at HA
    generalize setB B = sb at HB
    clear hno
    go_enter Tryd.func11, Tryd.ntmps11
    go_wp2_with fail
    refine (unhide HA).mono ?_
    rintro e w1 ⟨m1, rfl, hb1⟩
    have HB1 := hide hb1
    clear hb1
    go_wp2_with fail
    refine (unhide HB _ (unhide HB1)).mono ?_
    rintro e w2 ⟨m2, rfl, hb2⟩
    have HB2 := hide (belOnT (unhide HB1) hb2)
    clear hb2
    go_wp2_with fail
    exact bodyPost_ret (v := .tuple #[.slice none 0 0, .slice none 0 0, .slice none 0 0, .bool false]) (by simp [results, Tryd.results11, go_sem]) rfl ⟨_, _, _, rfl, unhide HT _, unhide HB2⟩
  | true =>
    rw [hA] at HA hno
    rw [Bool.true_and] at hno
    rw [hno] at HB
    go_enter Tryd.func11, Tryd.ntmps11
    go_wp2_with fail
    refine (unhide HA).mono ?_
    rintro e w1 ⟨m1, rfl, hb1⟩
    have HB1 := hide hb1
    clear hb1
    go_wp2_with fail
    refine (unhide HB _ (unhide HB1)).mono ?_
    rintro e w2 ⟨m2, rfl, hb2⟩
    have HB2 := hide (belOnT (unhide HB1) hb2)
    clear hb2
    go_wp2_with fail
    exact bodyPost_ret (v := .tuple #[.slice none 0 0, .slice none 0 0, .slice none 0 0, .bool false]) (by simp [results, Tryd.results11, go_sem]) rfl ⟨_, _, _, rfl, unhide HT _, unhide HB2⟩

set_option maxRecDepth 100000 in
set_option maxHeartbeats 8000000 in
theorem impl_StepsYes (a : Option Addr) (n c : Nat) (A : List ByteArray) (a' : Option Addr) (n' c' : Nat) (B : List ByteArray) (w : World) (h : TxtsAt w a n A) (h' : TxtsAt w a' n' B) (hA : setB A = true) (hB : setB B = true) (hK : KAt w) :
    Calls Tryd.prog 11 #[.slice a n c, .slice a' n' c'] w (StpI A B w) := by
  have h0 : 1 < w.heap.size := lt_of_cell (hK 0 (by omega))
  have hyes : stOk A B = true := by unfold stOk; rw [hA, hB]; rfl
  unfold StpI asL mrL leL
  rw [hyes]
  simp only [if_true]
  obtain ⟨sA1, sA2, sA3⟩ := setB_all hA
  obtain ⟨sB1, sB2, sB3⟩ := setB_all hB
  have k32 : ∀ (L : List ByteArray), ∀ x ∈ L.map kyL, x.length = 32 := fun L x hx => by obtain ⟨y, _, rfl⟩ := List.mem_map.1 hx; exact kyL_len y
  have HRA := hide (readY_calls a n c A w h hA)
  have HRB := hide (fun (W : World) (hW : Below w.heap.size w W) => readY_calls a' n' c' B W (h'.below hW) hB)
  have HKA := hide (fun (W : World) (b nn : Nat) (q : KSet W b nn (A.map kyL)) => keys_calls b nn _ (risK_map sA2 sA3) (k32 A) (by rw [List.length_map]; omega) W q)
  have HKB := hide (fun (W : World) (b nn : Nat) (q : KSet W b nn (B.map kyL)) => keys_calls b nn _ (risK_map sB2 sB3) (k32 B) (by rw [List.length_map]; omega) W q)
  have HTA := hide (fun (W : World) (hW : Below w.heap.size w W) (a : Option Addr) (m c : Nat) (q : RowAt keyE W a (A.map kyL)) (hm : (A.map kyL).length = m) => (show Calls Tryd.prog 19 #[.slice a m c, .agg #[.int .i64 0, .int .u8 0]] W fun e w' => ∃ b, e = .returned (.map (some b)) ∧ W.heap.size ≤ b ∧ TrAt w' b (cnt (2 - 0)) (grF (A.map kyL) 0 0 (fun _ _ => none)) ∧ Below W.heap.size W w' from treeOf_calls 0 0 (by omega) (by decide) a m c _ W q hm (by rw [List.length_map] at hm; omega) (k32 A) (hK.below hW h0)))
  have HTB := hide (fun (W : World) (hW : Below w.heap.size w W) (a : Option Addr) (m c : Nat) (q : RowAt keyE W a (B.map kyL)) (hm : (B.map kyL).length = m) => (show Calls Tryd.prog 19 #[.slice a m c, .agg #[.int .i64 0, .int .u8 0]] W fun e w' => ∃ b, e = .returned (.map (some b)) ∧ W.heap.size ≤ b ∧ TrAt w' b (cnt (2 - 0)) (grF (B.map kyL) 0 0 (fun _ _ => none)) ∧ Below W.heap.size W w' from treeOf_calls 0 0 (by omega) (by decide) a m c _ W q hm (by rw [List.length_map] at hm; omega) (k32 B) (hK.below hW h0)))
  have HAS := hide (fun (W : World) (ba bb na nb : Nat) (tA : TrAt W ba na (grF (A.map kyL) 0 0 (fun _ _ => none))) (tB : TrAt W bb nb (grF (B.map kyL) 0 0 (fun _ _ => none))) => (show Calls Tryd.prog 25 #[.map (some ba), .map (some bb)] W fun e w' => ∃ v1 v2, e = .returned (.tuple #[v1, v2]) ∧ OwnR brE w' W.heap.size v1 (askB (dfB A B)) ∧ OwnR brE w' W.heap.size v2 (unlB (dfB A B)) ∧ Below W.heap.size W w' from by
    have := askedOf_calls ba na bb nb (fun q => tN (A.map kyL) q.1 q.2) (fun q => tN (B.map kyL) q.1 q.2) _ _ (fun q hq => grF_root hq) (fun q hq => grF_root hq) (fun q => tN_len _ _ _) (fun q => tN_len _ _ _) W tA tB
    rw [askB_like (df_like hA hB), unlB_like (df_like hA hB)] at this
    exact this))
  have HWA := hide (fun (W : World) (bA nA bB nB : Nat) (qA : KSet W bA nA (A.map kyL)) (qB : KSet W bB nB (B.map kyL)) => without_calls bA nA bB nB A B hA hB W qA qB)
  have HWB := hide (fun (W : World) (bA nA bB nB : Nat) (qA : KSet W bA nA (A.map kyL)) (qB : KSet W bB nB (B.map kyL)) => without_calls bB nB bA nA B A hB hA W qB qA)
  obtain ⟨xA1, xA2, xA3⟩ := exB_set (B := B) hA
  obtain ⟨xB1, xB2, xB3⟩ := exB_set (B := A) hB
  have HXA := hide (fun (W : World) (b nn : Nat) (q : KLe W b nn ((exB A B).map kyL)) => keysL_calls b nn _ (risK_map xA2 xA3) (k32 _) (by rw [List.length_map]; omega) W q)
  have HXB := hide (fun (W : World) (b nn : Nat) (q : KLe W b nn ((exB B A).map kyL)) => keysL_calls b nn _ (risK_map xB2 xB3) (k32 _) (by rw [List.length_map]; omega) W q)
  obtain ⟨f1, f2, f3, f4⟩ := ask_facts (dfB A B)
  have HFG := hide f2
  have HUA := hide (fun (W : World) (a : Option Addr) (m c : Nat) (a' : Option Addr) (m' c' : Nat) (r : RowAt brE W a (unlB (dfB A B))) (hm : (unlB (dfB A B)).length = m) (r' : RowAt keyE W a' ((exB A B).map kyL)) (hm' : ((exB A B).map kyL).length = m') => (show Calls Tryd.prog 27 #[.slice a m c, .slice a' m' c'] W fun e w' => ∃ v, e = .returned v ∧ OwnR strE w' W.heap.size v ((unlB (dfB A B)).flatMap (lsB A B)) ∧ Below W.heap.size W w' from by
    rw [← flat_ls hA _ f4]
    exact underAny_calls a m c _ a' m' c' _ W r hm (by omega) f4 r' hm' (by rw [List.length_map] at hm'; omega) (k32 _)))
  have HUB := hide (fun (W : World) (a : Option Addr) (m c : Nat) (a' : Option Addr) (m' c' : Nat) (r : RowAt brE W a (unlB (dfB A B))) (hm : (unlB (dfB A B)).length = m) (r' : RowAt keyE W a' ((exB B A).map kyL)) (hm' : ((exB B A).map kyL).length = m') => (show Calls Tryd.prog 27 #[.slice a m c, .slice a' m' c'] W fun e w' => ∃ v, e = .returned v ∧ OwnR strE w' W.heap.size v ((unlB (dfB A B)).flatMap (lsB B A)) ∧ Below W.heap.size W w' from by
    rw [← flat_ls hB _ f4]
    exact underAny_calls a m c _ a' m' c' _ W r hm (by omega) f4 r' hm' (by rw [List.length_map] at hm'; omega) (k32 _)))
  obtain ⟨LA, hLA⟩ : ∃ LA, A.length = LA := ⟨_, rfl⟩
  obtain ⟨LB, hLB⟩ : ∃ LB, B.length = LB := ⟨_, rfl⟩
  obtain ⟨XA, hXA⟩ : ∃ XA, (exB A B).length = XA := ⟨_, rfl⟩
  obtain ⟨XB, hXB⟩ : ∃ XB, (exB B A).length = XB := ⟨_, rfl⟩
  have HLA := hide (show (A.map kyL).length = LA from by rw [List.length_map]; exact hLA)
  have HLB := hide (show (B.map kyL).length = LB from by rw [List.length_map]; exact hLB)
  have HNA := hide (show ((exB A B).map kyL).length = XA from by rw [List.length_map]; exact hXA)
  have HNB := hide (show ((exB B A).map kyL).length = XB from by rw [List.length_map]; exact hXB)
  generalize askB (dfB A B) = K at HAS HFG f1 ⊢
  generalize unlB (dfB A B) = U at HAS HUA HUB f3 ⊢
  generalize U.flatMap (lsB A B) = MR at HUA ⊢
  generalize U.flatMap (lsB B A) = LE at HUB ⊢
  obtain ⟨mk, hmk⟩ : ∃ mk, K.length = mk := ⟨_, rfl⟩
  obtain ⟨mu, hmu⟩ : ∃ mu, U.length = mu := ⟨_, rfl⟩
  rw [hmk] at f1
  rw [hmu] at f3
  have HMK := hide hmk
  have HMU := hide hmu
  clear h h' hA hB hK hyes sA1 sA2 sA3 sB1 sB2 sB3 k32 xA1 xA2 xA3 xB1 xB2 xB3 f2 f4 hLA hLB hXA hXB hmk hmu
  go_enter Tryd.func11, Tryd.ntmps11
  go_wp2_with fail
  refine (unhide HRA).mono ?_
  rintro e w1 ⟨bA, rfl, hbA, hkA, hb1⟩
  have HB1 := hide hb1
  have HSA1 := hide hkA
  clear hb1 hkA HRA
  go_wp2_with fail
  refine (unhide HRB _ (unhide HB1)).mono ?_
  rintro e w2 ⟨bB, rfl, hbB, hkB, hb2⟩
  have HB2 := hide (belOnT (unhide HB1) hb2)
  have HSA := hide (fun (W : World) (hW : Below w2.heap.size w2 W) => ((unhide HSA1).below hb2 (unhide HSA1).lt).below hW ((unhide HSA1).below hb2 (unhide HSA1).lt).lt)
  have HSB := hide (fun (W : World) (hW : Below w2.heap.size w2 W) => hkB.below hW hkB.lt)
  clear hb2 hkB HRB HSA1 HB1
  have HK3 := hide (unhide HKA w2 _ _ (unhide HSA w2 (Below.refl _ _)))
  go_wp2_with fail
  refine (unhide HK3).mono ?_
  rintro e w3 ⟨v3, rfl, o3, hb3⟩
  obtain ⟨a3, c3, hv3⟩ := o3.form
  rw [unhide HLA] at hv3
  subst hv3
  have HX3 := hide hb3
  have HT4 := hide (unhide HTA w3 (belOnT (unhide HB2) hb3) a3 LA c3 o3.at (unhide HLA))
  clear o3 hb3 HK3 HKA HTA
  go_wp2_with fail
  refine (unhide HT4).mono ?_
  rintro e w4 ⟨b4, rfl, -, ht4, hb4⟩
  have HX4 := hide (belOnT (unhide HX3) hb4)
  have HTR4 := hide ht4
  have HK5 := hide (unhide HKB w4 _ _ (unhide HSB w4 (unhide HX4)))
  clear ht4 hb4 HT4 HX3 HKB
  go_wp2_with fail
  refine (unhide HK5).mono ?_
  rintro e w5 ⟨v5, rfl, o5, hb5⟩
  obtain ⟨a5, c5, hv5⟩ := o5.form
  rw [unhide HLB] at hv5
  subst hv5
  have HX5 := hide (belOnT (unhide HX4) hb5)
  have HTR5 := hide ((unhide HTR4).below hb5 (unhide HTR4).lt)
  have HT6 := hide (unhide HTB w5 (belOnT (unhide HB2) (unhide HX5)) a5 LB c5 o5.at (unhide HLB))
  clear o5 hb5 HK5 HTR4 HX4 HTB
  go_wp2_with fail
  refine (unhide HT6).mono ?_
  rintro e w6 ⟨b6, rfl, -, ht6, hb6⟩
  have HX6 := hide (belOnT (unhide HX5) hb6)
  have HTR6 := hide ((unhide HTR5).below hb6 (unhide HTR5).lt)
  have HA7 := hide (unhide HAS w6 b4 b6 _ _ (unhide HTR6) ht6)
  clear ht6 hb6 HT6 HTR5 HX5 HTR6 HAS
  go_wp2_with fail
  refine (unhide HA7).mono ?_
  rintro e w7 ⟨v7, u7, rfl, o7, p7, hb7⟩
  obtain ⟨a7, c7, hv7⟩ := o7.form
  rw [unhide HMK] at hv7
  subst hv7
  obtain ⟨a8, c8, hv8⟩ := p7.form
  rw [unhide HMU] at hv8
  subst hv8
  have HX7 := hide (belOnT (unhide HX6) hb7)
  have HRK := hide o7.at
  have HRU := hide p7.at
  clear o7 p7 hb7 HA7 HX6
  go_wp2_with fail
  go_loopw [14, 16, 49] (fun s14 _ s49 wr => ∃ (i : Nat) (ta : Option Addr) (tc : Nat), s49 = .int .i64 i ∧ s14 = .slice ta i tc ∧ i ≤ mk ∧ Hid (OwnR strE wr w7.heap.size (.slice ta i tc) ((K.take i).map prT)) ∧ Hid (Below w7.heap.size w7 wr)) (fun _ _ s49 _ => mk - (intOf s49).toNat)
  case atStart => exact ⟨0, none, 0, rfl, rfl, by omega, hide (ownR_nil _ _ _), hide (Below.refl _ _)⟩
  case round =>
    obtain ⟨i, ta, tc, rfl, rfl, hi, HO, HB⟩ := hrel
    by_cases hlt : i < mk
    · have hil : i < K.length := by rw [unhide HMK]; exact hlt
      obtain ⟨g, e1, hgl, q0, q1⟩ := ((unhide HRK).below (unhide HB)).br i hil
      subst e1
      have hgd := unhide HFG K[i] (List.getElem_mem _)
      have HNX := hide (show (K.take (i + 1)).map prT = (K.take i).map prT ++ [prT K[i]] from by rw [List.take_succ_eq_append_getElem hil, List.map_append]; rfl)
      have HLN := hide (show ((K.take i).map prT).length = i from by rw [List.length_map, List.length_take]; omega)
      generalize K[i] = q at q0 q1 hgd HNX
      obtain ⟨n1, z⟩ := q
      simp only at q0 q1
      have HPR := hide (fun W => prefix_calls n1 z hgd W)
      have hps : (prT (n1, z)).size ≤ 2 := by rw [prT_size hgd]; exact hgd.1
      generalize prT (n1, z) = T at HPR HNX hps
      unfold brV at HPR
      have hinf := infB2 (.int .i64 (n1 : Int)) (.int .u8 (z : Int))
      have hall := allB2 (n1 : Int) (z : Int) .i64 .u8
      have hold : (#[.int .i64 0, .int .u8 0] : Array Value).size = (#[.int .i64 (n1 : Int), .int .u8 (z : Int)] : Array Value).size := rfl
      obtain ⟨W4, hW4⟩ : ∃ W4, wr.alloc (.cells #[.int .i64 0, .int .u8 0] 39) = W4 := ⟨_, rfl⟩
      have hnew4 : W4.heap[wr.heap.size]? = some (.cells #[.int .i64 0, .int .u8 0] 39 (0, 0)) := by rw [← hW4]; exact heap_alloc_new _ _
      have hs4 : wr.heap.size < W4.heap.size := by rw [← hW4]; simp
      have HB4 := hide (show Below wr.heap.size wr W4 from by rw [← hW4]; exact (Below.refl _ _).alloc (Nat.le_refl _) _)
      have i0 : (0 : Int) ≤ (i : Int) := by omega
      have i1 : (i : Int) < (mk : Int) := by omega
      clear hil hgd
      go_wp2_with (first
        | (refine wpList_store_any rfl 39 (.tmp 16) (.tmp 52) rfl wr.heap.size #[.int .i64 (n1 : Int), .int .u8 (z : Int)] rfl rfl 39 #[.int .i64 0, .int .u8 0] (by first | exact hnew4 | (rw [hW4]; exact hnew4)) hinf hold hall ?_; intro wx hrow5 hgr5 hsz5; (try rw [hW4] at hgr5 hsz5))
        | (refine wpList_load_row rfl 39 (.tmp 16) rfl wr.heap.size rfl 39 #[.int .i64 (n1 : Int), .int .u8 (z : Int)] (0, 0) _ hrow5 Tryd.underlying39 rfl hinf ?_))
      have HBx := hide ((unhide HB4).grown hgr5 (Nat.le_of_lt hs4) (fun k e => by cases e; exact Nat.le_refl _))
      have HOx := hide ((unhide HO).keep (unhide HBx))
      have HWx := hide (belOnT (unhide HB) (unhide HBx))
      clear hrow5 hgr5 hsz5 q0 q1 HO HB4 HBx hnew4
      refine (unhide HPR _).mono ?_
      rintro e wy ⟨rfl, hby⟩
      have HOy := hide ((unhide HOx).keep hby)
      have HWy := hide (belOnT (unhide HWx) hby)
      have hzy : w7.heap.size ≤ wy.heap.size := (unhide HWy).size
      have hlb : ((K.take i).map prT).length < 100000000 := by rw [unhide HLN]; omega
      clear hby HOx HWx HPR
      go_wp2_with (at_builtin; refine appR (e := strE) rfl _ _ rfl (unhide HOy) rfl T rfl _ rfl rfl hlb hzy ?_; intro v9 w9 hO9 hb9 hg9; obtain ⟨a9, c9, hv9⟩ := hO9.form; rw [List.length_append, unhide HLN, List.length_singleton] at hv9; subst hv9)
      have HO9 := hide hO9
      have HB9 := hide ((unhide HWy).trans hb9)
      clear hO9 hb9 hg9 HOy HWy
      go_wp2_with fail
      go_roundw
      case rel => exact ⟨i + 1, a9, c9, by go_num, rfl, by omega, hide (by rw [unhide HNX]; exact unhide HO9), HB9⟩
      case measure => simp [intOf]; omega
    · obtain rfl : i = mk := by omega
      have hO := unhide HO
      rw [List.take_of_length_le (by rw [unhide HMK]; exact Nat.le_refl _)] at hO
      have HOP := hide hO
      have HX8 := hide (belOnT (unhide HX7) (unhide HB))
      have HRU8 := hide ((unhide HRU).below (unhide HB))
      have HW10 := hide (unhide HWA wr _ _ _ _ (unhide HSA wr (unhide HX8)) (unhide HSB wr (unhide HX8)))
      have hz8 : w.heap.size ≤ w7.heap.size := (belOnT (unhide HB2) (unhide HX7)).size
      clear hO HO HWA HX7 HRK HRU HFG HB
      go_wp2_with fail
      refine (unhide HW10).mono ?_
      rintro e w10 ⟨b10, rfl, hk10, hb10⟩
      have HX10 := hide (belOnT (unhide HX8) hb10)
      have HRU10 := hide ((unhide HRU8).below hb10)
      have HOP10 := hide ((unhide HOP).keep hb10)
      have HK11 := hide (unhide HXA w10 _ _ hk10)
      clear hk10 hb10 HW10 HX8 HRU8 HOP HXA
      go_wp2_with fail
      refine (unhide HK11).mono ?_
      rintro e w11 ⟨v11, rfl, o11, hb11⟩
      obtain ⟨a11, c11, hv11⟩ := o11.form
      rw [unhide HNA] at hv11
      subst hv11
      have HX11 := hide (belOnT (unhide HX10) hb11)
      have HRU11 := hide ((unhide HRU10).below hb11)
      have HOP11 := hide ((unhide HOP10).keep hb11)
      have HU12 := hide (unhide HUA w11 a8 mu c8 a11 XA c11 (unhide HRU11) (unhide HMU) o11.at (unhide HNA))
      clear o11 hb11 HK11 HX10 HRU10 HOP10 HUA
      go_wp2_with fail
      refine (unhide HU12).mono ?_
      rintro e w12 ⟨v12, rfl, o12, hb12⟩
      have hap12 := ApT.new (unhide HOP11) o12 (Nat.le_refl _)
      obtain ⟨a12, c12, hv12⟩ := o12.form
      generalize MR.length = m12 at hv12
      subst hv12
      have HX12 := hide (belOnT (unhide HX11) hb12)
      have HRU12 := hide ((unhide HRU11).below hb12)
      have HOP12 := hide ((unhide HOP11).keep hb12)
      have HMR12 := hide o12
      have HAP12 := hide hap12
      have hz11 : w.heap.size ≤ w11.heap.size := (belOnT (unhide HB2) (unhide HX11)).size
      have HW13 := hide (unhide HWB w12 _ _ _ _ (unhide HSA w12 (unhide HX12)) (unhide HSB w12 (unhide HX12)))
      clear o12 hb12 hap12 HU12 HX11 HRU11 HOP11 HWB
      go_wp2_with fail
      refine (unhide HW13).mono ?_
      rintro e w13 ⟨b13, rfl, hk13, hb13⟩
      have HX13 := hide (belOnT (unhide HX12) hb13)
      have HRU13 := hide ((unhide HRU12).below hb13)
      have HOP13 := hide ((unhide HOP12).keep hb13)
      have HMR13 := hide ((unhide HMR12).keep hb13)
      have HK14 := hide (unhide HXB w13 _ _ hk13)
      clear hk13 hb13 HW13 HX12 HRU12 HOP12 HMR12 HXB
      go_wp2_with fail
      refine (unhide HK14).mono ?_
      rintro e w14 ⟨v14, rfl, o14, hb14⟩
      obtain ⟨a14, c14, hv14⟩ := o14.form
      rw [unhide HNB] at hv14
      subst hv14
      have HX14 := hide (belOnT (unhide HX13) hb14)
      have HRU14 := hide ((unhide HRU13).below hb14)
      have HOP14 := hide ((unhide HOP13).keep hb14)
      have HMR14 := hide ((unhide HMR13).keep hb14)
      have HU15 := hide (unhide HUB w14 a8 mu c8 a14 XB c14 (unhide HRU14) (unhide HMU) o14.at (unhide HNB))
      clear o14 hb14 HK14 HX13 HRU13 HOP13 HMR13 HUB
      go_wp2_with fail
      refine (unhide HU15).mono ?_
      rintro e w15 ⟨v15, rfl, o15, hb15⟩
      have h13 := ApT.new (unhide HOP14) o15 (Nat.le_refl _)
      have h23 := ApT.new (unhide HMR14) o15 (Nat.le_refl _)
      have hz14 : w.heap.size ≤ w14.heap.size := (belOnT (unhide HB2) (unhide HX14)).size
      have hTri : Tri w15 w.heap.size (.slice ta i tc) (.slice a12 m12 c12) v15 (K.map prT) MR LE := ⟨OwnR.le ((unhide HOP14).keep hb15) hz8, OwnR.le ((unhide HMR14).keep hb15) hz11, OwnR.le o15 hz14, unhide HAP12, h13, h23⟩
      obtain ⟨a15, c15, hv15⟩ := o15.form
      generalize LE.length = m15 at hv15
      subst hv15
      have HTR := hide hTri
      have HB15 := hide (belOnT (belOnT (unhide HB2) (unhide HX14)) hb15)
      clear o15 hb15 h13 h23 hTri HU15 HX14 HRU14 HOP14 HMR14
      go_wp2_with fail
      exact bodyPost_ret (v := .tuple #[.slice ta i tc, .slice a12 m12 c12, .slice a15 m15 c15, .bool true]) (by simp [results, Tryd.results11, go_sem]) rfl ⟨_, _, _, rfl, unhide HTR, unhide HB15⟩
end Go.Proofs.YtldgkpnlplfopaaDoor


/- Steps by the specification. -/
namespace Go.Proofs.YtldgkpnlplfopaaDoor
open Go.RowKit Go.Maps Plain
set_option linter.unusedVariables false

theorem Plain.undTx {A : List ByteArray} (h : setB A = true) (p : ByteArray) {W : World} {a1 : Option Addr} {n1 : Nat} (r : RowAt strE W a1 (A.filter (preB p))) (hl : (A.filter (preB p)).length = n1) : TxtsAt W a1 n1 (A.filter (preB p)) := by
  obtain ⟨s1, s2, s3⟩ := setB_all h
  have := List.length_filter_le (preB p) A
  exact ⟨r, hl, by omega, fun s hm => by have := (digB_form (s2 s (List.mem_filter.1 hm).1)).1; omega⟩
theorem Plain.und71 {A : List ByteArray} (h : setB A = true) (p : ByteArray) : ∀ s ∈ A.filter (preB p), s.size = 71 := fun s hm => (digB_form ((setB_all h).2.1 s (List.mem_filter.1 hm).1)).1
theorem Plain.und200 {A : List ByteArray} (h : setB A = true) (p : ByteArray) : (A.filter (preB p)).length ≤ 200 := Nat.le_trans (List.length_filter_le _ _) (setB_all h).1

/-- What the specification's Steps answers. -/
def Plain.StpQ (A B : List ByteArray) (w : World) (e : Ending) (w' : World) : Prop := ∃ v1 v2 v3, e = .returned (.tuple #[v1, v2, v3, .bool (stOk A B)]) ∧ OwnR strE w' w.heap.size v1 (asL A B) ∧ OwnR strE w' w.heap.size v2 (mrL A B) ∧ OwnR strE w' w.heap.size v3 (leL A B) ∧ Below w.heap.size w w'

set_option maxRecDepth 10000 in
set_option maxHeartbeats 2000000 in
theorem spec_StepsNo (a : Option Addr) (n c : Nat) (A : List ByteArray) (a' : Option Addr) (n' c' : Nat) (B : List ByteArray) (w : World) (h : TxtsAt w a n A) (h' : TxtsAt w a' n' B) (hno : stOk A B = false) :
    Calls Tryd.prog 10 #[.slice a n c, .slice a' n' c'] w (StpQ A B w) := by
  unfold StpQ asL mrL leL
  rw [hno]
  simp only [Bool.false_eq_true, if_false]
  obtain ⟨W3, hW3⟩ : ∃ W3, ((w.alloc (.cells #[] 9)).alloc (.cells #[] 9)).alloc (.cells #[] 9) = W3 := ⟨_, rfl⟩
  have hT := tri_made w
  have hb3 : Below w.heap.size w W3 := by rw [← hW3]; exact (((Below.refl _ _).alloc (Nat.le_refl _) _).alloc (by simp) _).alloc (by simp; omega) _
  rw [hW3] at hT
  have HT := hide hT
  have HW := hide hW3
  have HB3 := hide hb3
  have HSA := hide (l7Set_calls a n c A W3 (h.below hb3))
  have HSB := hide (fun (W : World) (hW : Below w.heap.size w W) => l7Set_calls a' n' c' B W (h'.below hW))
  unfold stOk at hno
  clear h h' hT hW3 hb3
  cases hA : setB A with
  | false =>
    rw [hA] at HSA
    clear hno
    go_enter Tryd.func10, Tryd.ntmps10
    go_wp2_with fail
    rw [unhide HW]
    refine (unhide HSA).mono ?_
    rintro e w1 ⟨rfl, hb1⟩
    have HT1 := hide ((unhide HT).keep hb1)
    have HB1 := hide ((unhide HB3).trans (hb1.mono (unhide HB3).size))
    clear hb1
    go_wp2_with fail
    exact bodyPost_ret (v := .tuple #[_, _, _, .bool false]) (by simp [results, Tryd.results10, go_sem]) rfl ⟨_, _, _, rfl, (unhide HT1).o1, (unhide HT1).o2, (unhide HT1).o3, unhide HB1⟩
  | true =>
    rw [hA] at HSA hno
    rw [Bool.true_and] at hno
    rw [hno] at HSB
    go_enter Tryd.func10, Tryd.ntmps10
    go_wp2_with fail
    rw [unhide HW]
    refine (unhide HSA).mono ?_
    rintro e w1 ⟨rfl, hb1⟩
    have HT1 := hide ((unhide HT).keep hb1)
    have HB1 := hide ((unhide HB3).trans (hb1.mono (unhide HB3).size))
    clear hb1
    go_wp2_with fail
    refine (unhide HSB _ (unhide HB1)).mono ?_
    rintro e w2 ⟨rfl, hb2⟩
    have HT2 := hide ((unhide HT1).keep hb2)
    have HB2 := hide (belOnT (unhide HB1) hb2)
    clear hb2
    go_wp2_with fail
    exact bodyPost_ret (v := .tuple #[_, _, _, .bool false]) (by simp [results, Tryd.results10, go_sem]) rfl ⟨_, _, _, rfl, (unhide HT2).o1, (unhide HT2).o2, (unhide HT2).o3, unhide HB2⟩

set_option maxRecDepth 10000 in
set_option maxHeartbeats 8000000 in
theorem spec_StepsYes (a : Option Addr) (n c : Nat) (A : List ByteArray) (a' : Option Addr) (n' c' : Nat) (B : List ByteArray) (w : World) (h : TxtsAt w a n A) (h' : TxtsAt w a' n' B) (hA : setB A = true) (hB : setB B = true) :
    Calls Tryd.prog 10 #[.slice a n c, .slice a' n' c'] w (StpQ A B w) := by
  have hyes : stOk A B = true := by unfold stOk; rw [hA, hB]; rfl
  unfold StpQ asL mrL leL
  rw [hyes]
  simp only [if_true]
  obtain ⟨W3, hW3⟩ : ∃ W3, ((w.alloc (.cells #[] 9)).alloc (.cells #[] 9)).alloc (.cells #[] 9) = W3 := ⟨_, rfl⟩
  have hT := tri_made w
  have hb3 : Below w.heap.size w W3 := by rw [← hW3]; exact (((Below.refl _ _).alloc (Nat.le_refl _) _).alloc (by simp) _).alloc (by simp; omega) _
  rw [hW3] at hT
  have HT := hide hT
  have HW := hide hW3
  have HB3 := hide hb3
  have HSA := hide (l7Set_calls a n c A W3 (h.below hb3))
  rw [hA] at HSA
  have HSB := hide (fun (W : World) (hW : Below w.heap.size w W) => l7Set_calls a' n' c' B W (h'.below hW))
  rw [hB] at HSB
  have a71 : ∀ s ∈ A, s.size = 71 := fun s hm => (digB_form ((setB_all hA).2.1 s hm)).1
  have b71 : ∀ s ∈ B, s.size = 71 := fun s hm => (digB_form ((setB_all hB).2.1 s hm)).1
  have HUA := hide (fun (W : World) (hW : Below w.heap.size w W) (p : ByteArray) (hp : p.size ≤ 2) => l7Under_calls a n c A p W (h.below hW) a71 hp)
  have HUB := hide (fun (W : World) (hW : Below w.heap.size w W) (p : ByteArray) (hp : p.size ≤ 2) => l7Under_calls a' n' c' B p W (h'.below hW) b71 hp)
  have HNA := hide (fun (W : World) (q : Nat × Nat) (hq : gdB q) (a1 : Option Addr) (n1 c1 : Nat) (r : RowAt strE W a1 (A.filter (preB (prT q)))) (hl : (A.filter (preB (prT q))).length = n1) => (show Calls Tryd.prog 16 #[.slice a1 n1 c1, .string (prT q)] W fun e w' => e = .returned (.string (ndB A q)) ∧ Below W.heap.size W w' from by
    rw [← nd_same]
    exact l7Node_calls (2 - q.1) (prT q) (by rw [prT_size hq]; have := hq.1; omega) a1 n1 c1 _ W (undTx hA _ r hl) (und71 hA _) (by have := und200 hA (prT q); omega)))
  have HNB := hide (fun (W : World) (q : Nat × Nat) (hq : gdB q) (a1 : Option Addr) (n1 c1 : Nat) (r : RowAt strE W a1 (B.filter (preB (prT q)))) (hl : (B.filter (preB (prT q))).length = n1) => (show Calls Tryd.prog 16 #[.slice a1 n1 c1, .string (prT q)] W fun e w' => e = .returned (.string (ndB B q)) ∧ Below W.heap.size W w' from by
    rw [← nd_same]
    exact l7Node_calls (2 - q.1) (prT q) (by rw [prT_size hq]; have := hq.1; omega) a1 n1 c1 _ W (undTx hB _ r hl) (und71 hB _) (by have := und200 hB (prT q); omega)))
  have HFA := hide (fun p => und200 hA p)
  have HFB := hide (fun p => und200 hB p)
  have HLA := hide (setB_all hA).1
  have HLB := hide (setB_all hB).1
  clear h h' hT hW3 hb3 a71 b71 hyes
  go_enter Tryd.func10, Tryd.ntmps10
  go_wp2_with fail
  rw [unhide HW]
  refine (unhide HSA).mono ?_
  rintro e w1 ⟨rfl, hb1⟩
  have HT1 := hide ((unhide HT).keep hb1)
  have HB1 := hide ((unhide HB3).trans (hb1.mono (unhide HB3).size))
  clear hb1 HT HB3 HSA HW
  go_wp2_with fail
  refine (unhide HSB _ (unhide HB1)).mono ?_
  rintro e w2 ⟨rfl, hb2⟩
  have HT2 := hide ((unhide HT1).keep hb2)
  have HB2 := hide (belOnT (unhide HB1) hb2)
  have hz2 := (unhide HB2).size
  have HA2 := hide (show Below w2.heap.size w2 (w2.alloc (.cells #[.string ByteArray.empty] 9)) from (Below.refl _ _).alloc (Nat.le_refl _) _)
  clear hb2 HT1 HB1 HSB
  go_wp2_with (at_builtin; refine appRAt (e := strE) rfl _ _ rfl (unhide HT2).o1 rfl ByteArray.empty rfl _ rfl rfl (by decide) hz2 ?_; intro v4 w4 hO4 hb4 hg4 hw4)
  obtain ⟨a4, c4, hv4⟩ := hO4.form
  have hT4 := ((unhide HT2).keep (unhide HA2)).app hO4 hg4 (by simpa using hw4)
  rw [show ([] ++ [ByteArray.empty] : List ByteArray).length = 1 from rfl] at hv4
  subst hv4
  have HT4 := hide hT4
  have HB4 := hide ((unhide HB2).trans hb4)
  clear hO4 hb4 hg4 hw4 hT4 HT2 HB2 HA2 hz2
  go_wp2_with fail
  go_loopw [8, 9, 10, 11, 12, 13, 14] (fun s8 s9 s10 s11 _ _ _ wr => ∃ (i m : Nat) (b1 b2 b3 : Option Addr) (d1 d2 d3 m2 m3 : Nat), s11 = .int .i64 i ∧ s8 = .slice b1 m d1 ∧ s9 = .slice b2 m2 d2 ∧ s10 = .slice b3 m3 d3 ∧ i ≤ m ∧ m ≤ 273 ∧ Hid ((stB (dfB A B) i).1.length = m) ∧ Hid (Tri wr w.heap.size (.slice b1 m d1) (.slice b2 m2 d2) (.slice b3 m3 d3) ((stB (dfB A B) i).1.map prT) ((stB (dfB A B) i).2.flatMap (lsB A B)) ((stB (dfB A B) i).2.flatMap (lsB B A))) ∧ Hid (Below w.heap.size w wr)) (fun _ _ _ s11 _ _ _ _ => 273 - (intOf s11).toNat)
  case atStart => exact ⟨0, 1, _, _, _, _, _, _, _, _, rfl, rfl, rfl, rfl, by omega, by omega, hide rfl, HT4, HB4⟩
  case round =>
    clear HT4 HB4
    obtain ⟨i, m, b1, b2, b3, d1, d2, d3, m2, m3, rfl, rfl, rfl, rfl, him, hm, HM, HT, HBw⟩ := hrel
    by_cases hlt : i < m
    · have hil : i < (stB (dfB A B) i).1.length := by rw [unhide HM]; exact hlt
      have hinv := stB_inv (dfB A B) i (by omega)
      obtain ⟨q, hq⟩ : ∃ q, (stB (dfB A B) i).1[i] = q := ⟨_, rfl⟩
      have hqi : (stB (dfB A B) i).1[i]? = some q := by rw [List.getElem?_eq_getElem hil, hq]
      have hgd : gdB q := hinv.good q (by rw [← hq]; exact List.getElem_mem _)
      obtain ⟨g, e1, hgl, hc, -⟩ := (unhide HT).o1.at.str i (by rw [List.length_map]; exact hil)
      rw [List.getElem_map, hq] at hc
      subst e1
      have hps := prT_size hgd
      have hq2 := hgd.1
      have HSM := hide (fun hd => stB_same (dfB A B) i q hqi hd)
      have HLF := hide (fun hd h2 => stB_leaf (dfB A B) i q hqi hd h2)
      have HMO := hide (fun hd h2 => stB_more (dfB A B) i q hqi hd h2)
      have HIN := hide (fun (hx : i + 1 ≤ (stB (dfB A B) (i + 1)).1.length) => (stB_inv (dfB A B) (i + 1) hx).len hx)
      have hfw := hinv.few
      have g2 : ((stB (dfB A B) i).2.flatMap (lsB A B)).length = m2 := by
        obtain ⟨x2, y2, f2⟩ := (unhide HT).o2.form
        injection f2 with f2a f2b f2c
        exact f2b.symm
      have g3 : ((stB (dfB A B) i).2.flatMap (lsB B A)).length = m3 := by
        obtain ⟨x3, y3, f3⟩ := (unhide HT).o3.form
        injection f3 with f3a f3b f3c
        exact f3b.symm
      have hml : m2 ≤ 200 * 273 ∧ m3 ≤ 200 * 273 := by
        have k2 := flat_le A B (unhide HLA) (stB (dfB A B) i).2
        have k3 := flat_le B A (unhide HLB) (stB (dfB A B) i).2
        rw [g2] at k2
        rw [g3] at k3
        omega
      have HL2 := hide g2
      have HL3 := hide g3
      clear g2 g3
      have HP1 := hide (unhide HUA wr (unhide HBw) (prT q) (by omega))
      have HP2 := hide (fun (W : World) (hW : Below wr.heap.size wr W) => unhide HUB W (belOnT (unhide HBw) hW) (prT q) (by omega))
      have HQA := hide (fun (W : World) (a1 : Option Addr) (n1 c1 : Nat) (r : RowAt strE W a1 (A.filter (preB (prT q)))) (hl : (A.filter (preB (prT q))).length = n1) => unhide HNA W q hgd a1 n1 c1 r hl)
      have HQB := hide (fun (W : World) (a1 : Option Addr) (n1 c1 : Nat) (r : RowAt strE W a1 (B.filter (preB (prT q)))) (hl : (B.filter (preB (prT q))).length = n1) => unhide HNB W q hgd a1 n1 c1 r hl)
      have HBE := hide (fun W => l7Below_calls (prT q) W (by omega))
      have HBX := hide (fun h1 => blw_sx hgd h1)
      have hfa := unhide HFA (prT q)
      have hfb := unhide HFB (prT q)
      have HLS := hide (show lsB A B q = (A.filter (preB (prT q))).filter fun x => !anyB (B.filter (preB (prT q))) x from rfl)
      have HLT := hide (show lsB B A q = (B.filter (preB (prT q))).filter fun x => !anyB (A.filter (preB (prT q))) x from rfl)
      have hdf : dfB A B q = decide (ndB A q ≠ ndB B q) := rfl
      have hl200 := lsB_len A B q (unhide HLA)
      have hr200 := lsB_len B A q (unhide HLB)
      generalize A.filter (preB (prT q)) = FA at HP1 HQA hfa HLS HLT
      generalize B.filter (preB (prT q)) = FB at HP2 HQB hfb HLS HLT
      generalize prT q = p at hc hps HP1 HP2 HQA HQB HBE HBX
      obtain ⟨ma, hma⟩ : ∃ ma, FA.length = ma := ⟨_, rfl⟩
      obtain ⟨mb, hmb⟩ : ∃ mb, FB.length = mb := ⟨_, rfl⟩
      rw [hma] at hfa
      rw [hmb] at hfb
      have HMA := hide hma
      have HMB := hide hmb
      have i0 : (0 : Int) ≤ (i : Int) := by omega
      have i1 : (i : Int) < (m : Int) := by omega
      clear hq hqi hil hinv hma hmb HUA HUB HNA HNB
      go_wp2_with fail
      refine (unhide HP1).mono ?_
      rintro e w1 ⟨v1, rfl, o1, hb1⟩
      obtain ⟨a1, c1, hv1⟩ := o1.form
      rw [unhide HMA] at hv1
      subst hv1
      have HR1 := hide o1
      have HX1 := hide hb1
      have HAP1 := hide (ApT.new (unhide HT).o2 o1 (Nat.le_refl _))
      clear o1 hb1 HP1 hc
      go_wp2_with fail
      refine (unhide HP2 _ (unhide HX1)).mono ?_
      rintro e w2 ⟨v2, rfl, o2, hb2⟩
      obtain ⟨a2, c2, hv2⟩ := o2.form
      rw [unhide HMB] at hv2
      subst hv2
      have HR2 := hide o2
      have HAP2 := hide (ApT.new (unhide HT).o2 o2 (unhide HX1).size)
      have HR12 := hide ((unhide HR1).keep hb2)
      have HX2 := hide (belOnT (unhide HX1) hb2)
      have HN1 := hide (unhide HQA w2 a1 ma c1 (unhide HR12).at (unhide HMA))
      clear o2 hb2 HP2 HR1 HX1 HQA
      go_wp2_with fail
      refine (unhide HN1).mono ?_
      rintro e w3 ⟨rfl, hb3⟩
      have HR13 := hide ((unhide HR12).keep hb3)
      have HR23 := hide ((unhide HR2).keep hb3)
      have HX3 := hide (belOnT (unhide HX2) hb3)
      have HN2 := hide (unhide HQB w3 a2 mb c2 (unhide HR23).at (unhide HMB))
      clear hb3 HR12 HR2 HX2 HQB HN1
      go_wp2_with fail
      refine (unhide HN2).mono ?_
      rintro e w4 ⟨rfl, hb4⟩
      have HR14 := hide ((unhide HR13).keep hb4)
      have HR24 := hide ((unhide HR23).keep hb4)
      have HX4 := hide (belOnT (unhide HX3) hb4)
      have HT4 := hide ((unhide HT).keep (unhide HX4))
      have HB4 := hide (belOnT (unhide HBw) (unhide HX4))
      have hz4 := (unhide HB4).size
      clear hb4 HR13 HR23 HX3 HN2 HT HX4
      by_cases heq : ndB A q = ndB B q
      · have hst := unhide HSM (by rw [hdf]; simp [heq])
        rw [heq]
        generalize ndB B q = Z
        have HST := hide hst
        have HML := hide (show (stB (dfB A B) (i + 1)).1.length = m from by rw [hst]; exact unhide HM)
        clear hst hdf heq HSM HLF HMO HIN
        go_wp2_with fail
        go_roundw
        case rel => exact ⟨i + 1, m, _, _, _, _, _, _, _, _, by go_num, rfl, rfl, rfl, by omega, by omega, HML, hide (by rw [unhide HST]; exact unhide HT4), HB4⟩
        case measure => simp [intOf]; omega
      · have hdt : dfB A B q = true := by rw [hdf]; simp [heq]
        have hne : ((ndB A q).toList == (ndB B q).toList) = false := by
          rw [beq_eq_false_iff_ne, ByteArray.toList_eq, ByteArray.toList_eq]
          intro e
          exact heq (ByteArray.ext (Array.toList_inj.1 e))
        generalize ndB A q = Z1 at hne ⊢
        generalize ndB B q = Z2 at hne ⊢
        by_cases h2 : q.1 = 2
        · have hst := unhide HLF hdt h2
          have HST := hide hst
          have HML := hide (show (stB (dfB A B) (i + 1)).1.length = m from by rw [hst]; exact unhide HM)
          have hp2 : ¬ ((p.size : Int) < 2) := by omega
          have HG1 := hide (l7Less_calls a1 ma c1 FA a2 mb c2 FB w4 (unhide HR14).at (unhide HMA) (by omega) (unhide HR24).at.strs (unhide HMB) (by omega))
          rw [← unhide HLS] at HG1
          clear hst hdf heq HSM HLF HMO HIN
          go_wp2_with fail
          refine (unhide HG1).mono ?_
          rintro e w5 ⟨v5, rfl, o5, hb5⟩
          obtain ⟨a5, c5, hv5⟩ := o5.form
          obtain ⟨m5, hm5⟩ : ∃ m5, (lsB A B q).length = m5 := ⟨_, rfl⟩
          rw [hm5] at hv5 hl200
          subst hv5
          have HT5 := hide ((unhide HT4).keep hb5)
          have HB5 := hide (belOnT (unhide HB4) hb5)
          have HR15 := hide ((unhide HR14).keep hb5)
          have HR25 := hide ((unhide HR24).keep hb5)
          have HO5 := hide o5
          have hz5 := (unhide HB5).size
          have HM5 := hide hm5
          have hlb : ((stB (dfB A B) i).2.flatMap (lsB A B)).length + m5 < 100000000 := by rw [unhide HL2]; omega
          clear o5 hb5 HT4 HB4 HR14 HR24 HG1 hm5
          go_wp2_with (at_builtin; refine appAt (e := strE) rfl _ _ rfl (unhide HT5).o2 rfl a5 m5 c5 rfl (unhide HM5) (unhide HO5).at (unhide HO5).adG hlb hz5 ?_; intro v6 w6 hO6 hb6 hg6 hw6)
          obtain ⟨a6, c6, hv6⟩ := hO6.form
          have hT6 := ((unhide HT5).rot.app hO6 hg6 hw6).rot.rot
          rw [List.length_append, unhide HL2, unhide HM5] at hv6
          subst hv6
          have HT6 := hide hT6
          have HB6 := hide ((unhide HB5).trans hb6)
          have hz6 := (unhide HB6).size
          have HR16 := hide (keptT (unhide HR15) (unhide HAP1) hg6)
          have HR26 := hide (keptT (unhide HR25) (unhide HAP2) hg6)
          have HG2 := hide (l7Less_calls a2 mb c2 FB a1 ma c1 FA w6 (unhide HR26).at (unhide HMB) (by omega) (unhide HR16).at.strs (unhide HMA) (by omega))
          rw [← unhide HLT] at HG2
          clear hO6 hb6 hg6 hw6 hT6 HT5 HB5 HR15 HR25 HR16 HR26 HO5
          go_wp2_with fail
          refine (unhide HG2).mono ?_
          rintro e w7 ⟨v7, rfl, o7, hb7⟩
          obtain ⟨a7, c7, hv7⟩ := o7.form
          obtain ⟨m7, hm7⟩ : ∃ m7, (lsB B A q).length = m7 := ⟨_, rfl⟩
          rw [hm7] at hv7 hr200
          subst hv7
          have HT7 := hide ((unhide HT6).keep hb7)
          have HB7 := hide (belOnT (unhide HB6) hb7)
          have HO7 := hide o7
          have hz7 := (unhide HB7).size
          have HM7 := hide hm7
          have hlc : ((stB (dfB A B) i).2.flatMap (lsB B A)).length + m7 < 100000000 := by rw [unhide HL3]; omega
          clear o7 hb7 HT6 HB6 HG2 hm7
          go_wp2_with (at_builtin; refine appAt (e := strE) rfl _ _ rfl (unhide HT7).o3 rfl a7 m7 c7 rfl (unhide HM7) (unhide HO7).at (unhide HO7).adG hlc hz7 ?_; intro v8 w8 hO8 hb8 hg8 hw8)
          obtain ⟨a8, c8, hv8⟩ := hO8.form
          have hT8 := ((unhide HT7).rot.rot.app hO8 hg8 hw8).rot
          rw [List.length_append, unhide HL3, unhide HM7] at hv8
          subst hv8
          have HT8 := hide hT8
          have HB8 := hide ((unhide HB7).trans hb8)
          clear hO8 hb8 hg8 hw8 hT8 HT7 HB7 HO7
          go_wp2_with fail
          go_roundw
          case rel => exact ⟨i + 1, m, _, _, _, _, _, _, _, _, by go_num, rfl, rfl, rfl, by omega, by omega, HML, hide (by rw [unhide HST]; simp only [List.flatMap_append, List.flatMap_cons, List.flatMap_nil, List.append_nil]; exact unhide HT8), HB8⟩
          case measure => simp [intOf]; omega
        · have hlt2 : q.1 < 2 := by omega
          have hst := unhide HMO hdt h2
          have HST := hide hst
          have hml2 : (stB (dfB A B) (i + 1)).1.length = m + 16 := by rw [hst]; simp only [List.length_append, sxB_len]; rw [unhide HM]
          have hm16 : m + 16 ≤ 273 := by
            have := unhide HIN (by rw [hml2]; omega)
            omega
          have HML := hide hml2
          have hp2 : ((p.size : Int) < 2) := by omega
          have hbx := unhide HBX hlt2
          rw [hbx] at HBE
          have HLA1 := hide (show ((stB (dfB A B) i).1.map prT).length = m from by rw [List.length_map]; exact unhide HM)
          have HL16 := hide (show ((sxB q).map prT).length = 16 from by rw [List.length_map, sxB_len])
          clear hst hdf heq HSM HLF HMO HIN hbx HBX hml2
          go_wp2_with fail
          refine (unhide HBE _).mono ?_
          rintro e w5 ⟨v5, rfl, o5, hb5⟩
          obtain ⟨a5, c5, hv5⟩ := o5.form
          rw [unhide HL16] at hv5
          subst hv5
          have HT5 := hide ((unhide HT4).keep hb5)
          have HB5 := hide (belOnT (unhide HB4) hb5)
          have HO5 := hide o5
          have hz5 := (unhide HB5).size
          have hlb : ((stB (dfB A B) i).1.map prT).length + 16 < 100000000 := by rw [unhide HLA1]; omega
          clear o5 hb5 HT4 HB4 HR14 HR24 HBE
          go_wp2_with (at_builtin; refine appAt (e := strE) rfl _ _ rfl (unhide HT5).o1 rfl a5 16 c5 rfl (unhide HL16) (unhide HO5).at (unhide HO5).adG hlb hz5 ?_; intro v6 w6 hO6 hb6 hg6 hw6)
          obtain ⟨a6, c6, hv6⟩ := hO6.form
          have hT6 := (unhide HT5).app hO6 hg6 hw6
          rw [List.length_append, unhide HLA1, unhide HL16] at hv6
          subst hv6
          have HT6 := hide hT6
          have HB6 := hide ((unhide HB5).trans hb6)
          clear hO6 hb6 hg6 hw6 hT6 HT5 HB5 HO5
          go_wp2_with fail
          go_roundw
          case rel => exact ⟨i + 1, m + 16, _, _, _, _, _, _, _, _, by go_num, rfl, rfl, rfl, by omega, by omega, HML, hide (by rw [unhide HST]; simp only [List.map_append]; exact unhide HT6), HB6⟩
          case measure => simp [intOf]; omega
    · obtain rfl : i = m := by omega
      have hfin := stB_fin (dfB A B) i (unhide HM)
      have hT := unhide HT
      rw [hfin] at hT
      have HTF := hide hT
      clear hT hfin HT
      go_wp2_with fail
      exact bodyPost_ret (v := .tuple #[_, _, _, .bool true]) (by simp [results, Tryd.results10, go_sem]) rfl ⟨_, _, _, rfl, (unhide HTF).o1, (unhide HTF).o2, (unhide HTF).o3, unhide HBw⟩
end Go.Proofs.YtldgkpnlplfopaaDoor


/- The walk of the law FnExactSteps. -/
namespace Go.Proofs.YtldgkpnlplfopaaDoor
open Go.RowKit Go.Maps Plain
set_option linter.unusedVariables false

theorem spec_Steps (a : Option Addr) (n c : Nat) (A : List ByteArray) (a' : Option Addr) (n' c' : Nat) (B : List ByteArray) (w : World) (h : TxtsAt w a n A) (h' : TxtsAt w a' n' B) :
    Calls Tryd.prog 10 #[.slice a n c, .slice a' n' c'] w (StpQ A B w) := by
  cases hno : stOk A B with
  | false => exact spec_StepsNo a n c A a' n' c' B w h h' hno
  | true =>
    unfold stOk at hno
    rw [Bool.and_eq_true] at hno
    exact spec_StepsYes a n c A a' n' c' B w h h' hno.1 hno.2
theorem impl_Steps (a : Option Addr) (n c : Nat) (A : List ByteArray) (a' : Option Addr) (n' c' : Nat) (B : List ByteArray) (w : World) (h : TxtsAt w a n A) (h' : TxtsAt w a' n' B) (hK : KAt w) :
    Calls Tryd.prog 11 #[.slice a n c, .slice a' n' c'] w (StpI A B w) := by
  cases hno : stOk A B with
  | false => exact impl_StepsNo a n c A a' n' c' B w h h' hno
  | true =>
    unfold stOk at hno
    rw [Bool.and_eq_true] at hno
    exact impl_StepsYes a n c A a' n' c' B w h h' hno.1 hno.2 hK
theorem Plain.st_len (A B : List ByteArray) : (asL A B).length ≤ 60000 ∧ (mrL A B).length ≤ 60000 ∧ (leL A B).length ≤ 60000 := by
  unfold asL mrL leL
  cases hno : stOk A B with
  | false => simp
  | true =>
    unfold stOk at hno
    rw [Bool.and_eq_true] at hno
    simp only [if_true]
    obtain ⟨f1, f2, f3, f4⟩ := ask_facts (dfB A B)
    have k2 := flat_le A B (setB_all hno.1).1 (unlB (dfB A B))
    have k3 := flat_le B A (setB_all hno.2).1 (unlB (dfB A B))
    rw [List.length_map]
    omega
theorem Plain.RowAt.onlyT {w w' : World} {a b : Option Addr} {ls : List ByteArray} (h : RowAt strE w a ls) (ho : OnlyRow b w w') (hne : ∀ g o, a = some ⟨g, o, none⟩ → ∀ o', b ≠ some ⟨g, o', none⟩) : RowAt strE w' a ls := h.onlyRowK ho hne
theorem OwnR.blkT {w : World} {B n c : Nat} {a : Option Addr} {ls : List ByteArray} (h : OwnR strE w B (.slice a n c) ls) : ∀ g o, a = some ⟨g, o, none⟩ → B ≤ g ∧ g < w.heap.size := h.blkK
theorem Plain.ApT.ne {a b : Option Addr} {n c n' c' : Nat} (h : ApT (.slice a n c) (.slice b n' c')) : ∀ g o, b = some ⟨g, o, none⟩ → ∀ o', a ≠ some ⟨g, o', none⟩ := by
  intro g o e o' e'
  exact h g (by rw [e']; rfl) (by rw [e]; rfl)

namespace fnExactSteps
set_option maxRecDepth 10000 in
set_option maxHeartbeats 16000000 in
theorem walk0 (a : Option Addr) (n c : Nat) (A : List ByteArray) (a' : Option Addr) (n' c' : Nat) (B : List ByteArray) (w : World) (w0 : StrsRow w a n c A) (w0' : StrsRow w a' n' c' B) (hK : KAt w) :
    Calls Tryd.prog 4 #[.slice a n c, .slice a' n' c'] w fun e w' => e = .returned (.bool true) ∧ Below w.heap.size w w' := by
  have h0 : 1 < w.heap.size := lt_of_cell (hK 0 (by omega))
  obtain ⟨hn, hn2, hs, hr⟩ := w0
  obtain ⟨hn', hn2', hs', hr'⟩ := w0'
  unfold maxLen at hn2 hs hn2' hs'
  have HSZ := hide (szStringS_calls a n c A 1048576 w hn (by omega) (fun l hl => by have := hs l hl; omega) (by omega) (by omega) hr)
  unfold szL at HSZ
  rw [hn] at HSZ
  by_cases hbig : (1048576 : Int) < (n : Int) + sumZ A
  · rw [if_pos hbig] at HSZ
    clear hs hn hr hbig hK hs' hn' hr'
    go_enter Tryd.func4, Tryd.ntmps4
    go_wp2_with fail
    refine (unhide HSZ).mono ?_
    rintro e w1 ⟨rfl, hb1⟩
    have HB1 := hide hb1
    clear hb1
    go_wp2_with fail
    go_ret
    exact ⟨rfl, unhide HB1⟩
  rw [if_neg hbig] at HSZ
  obtain ⟨r, hr2⟩ : ∃ r : Nat, (1048576 : Int) - ((n : Int) + sumZ A) = (r : Int) := ⟨1048576 - (n + sumZ A), by omega⟩
  rw [hr2] at HSZ
  have hrb : r ≤ 1048576 := by omega
  have f2 : n ≤ 1048576 := by omega
  have HF3 := hide (show ∀ l ∈ A, l.size ≤ 1048576 from fun l hl => by have := sumZ_mem A l hl; omega)
  have HTXA := hide (fun (W : World) (a : Option Addr) (q : RowAt strE W a A) => (show TxtsAt W a n A from ⟨q, hn, f2, fun s hs => by have := unhide HF3 s hs; omega⟩))
  have HSY := hide (fun (W : World) (hW : Below w.heap.size w W) => szStringS_calls a' n' c' B (r : Int) W hn' (by omega) (fun l hl => by have := hs' l hl; omega) (by omega) (by omega) (hr'.below hW))
  unfold szL at HSY
  rw [hn'] at HSY
  have hrn : ¬ ((r : Int) < 0) := by omega
  clear hr2 hbig
  by_cases hbig : (r : Int) < (n' : Int) + sumZ B
  · rw [if_pos hbig] at HSY
    clear hs hn hr hbig hK hs' hn' hr'
    go_enter Tryd.func4, Tryd.ntmps4
    go_wp2_with fail
    refine (unhide HSZ).mono ?_
    rintro e w1 ⟨rfl, hb1⟩
    have HB1 := hide hb1
    clear hb1
    go_wp2_with fail
    refine (unhide HSY _ (unhide HB1)).mono ?_
    rintro e w2 ⟨rfl, hb2⟩
    have HB2 := hide (belOnT (unhide HB1) hb2)
    clear hb2
    go_wp2_with fail
    go_ret
    exact ⟨rfl, unhide HB2⟩
  rw [if_neg hbig] at HSY
  obtain ⟨r2, hr3⟩ : ∃ r2 : Nat, (r : Int) - ((n' : Int) + sumZ B) = (r2 : Int) := ⟨r - (n' + sumZ B), by omega⟩
  rw [hr3] at HSY
  have hrn2 : ¬ ((r2 : Int) < 0) := by omega
  have f2' : n' ≤ 1048576 := by omega
  have HF3' := hide (show ∀ l ∈ B, l.size ≤ 1048576 from fun l hl => by have := sumZ_mem B l hl; omega)
  have HTXB := hide (fun (W : World) (a : Option Addr) (q : RowAt strE W a B) => (show TxtsAt W a n' B from ⟨q, hn', f2', fun s hs => by have := unhide HF3' s hs; omega⟩))
  have HSP := hide (fun (W : World) (a a' : Option Addr) (q : TxtsAt W a n A) (q' : TxtsAt W a' n' B) => spec_Steps a n n A a' n' n' B W q q')
  have HIM := hide (fun (W : World) (hW : Below w.heap.size w W) (a a' : Option Addr) (q : TxtsAt W a n A) (q' : TxtsAt W a' n' B) => impl_Steps a n n A a' n' n' B W q q' (hK.below hW h0))
  unfold StpQ at HSP
  unfold StpI at HIM
  obtain ⟨l1, l2, l3⟩ := st_len A B
  generalize asL A B = O1 at HSP HIM l1
  generalize mrL A B = O2 at HSP HIM l2
  generalize leL A B = O3 at HSP HIM l3
  generalize stOk A B = ok at HSP HIM
  obtain ⟨m1, hm1⟩ : ∃ m, O1.length = m := ⟨_, rfl⟩
  obtain ⟨m2, hm2⟩ : ∃ m, O2.length = m := ⟨_, rfl⟩
  obtain ⟨m3, hm3⟩ : ∃ m, O3.length = m := ⟨_, rfl⟩
  rw [hm1] at l1
  rw [hm2] at l2
  rw [hm3] at l3
  have HM1 := hide hm1
  have HM2 := hide hm2
  have HM3 := hide hm3
  have HNA := hide hn
  have HNB := hide hn'
  have HRA := hide (fun (W : World) (h : Below w.heap.size w W) => hr.below h)
  have HRB := hide (fun (W : World) (h : Below w.heap.size w W) => hr'.below h)
  have hokk : (ok != ok) = false := by simp
  clear hs hn hr hs' hn' hr' hbig hn2 hn2' hr3 hK hm1 hm2 hm3
  go_enter Tryd.func4, Tryd.ntmps4
  go_wp2_with fail
  refine (unhide HSZ).mono ?_
  rintro e w1 ⟨rfl, hb⟩
  have HA1 := hide hb
  clear hb HSZ
  go_wp2_with fail
  refine (unhide HSY _ (unhide HA1)).mono ?_
  rintro e w2 ⟨rfl, hb⟩
  have HA2 := hide (belOnT (unhide HA1) hb)
  clear hb HSY HA1
  go_wp2_with fail
  refine (toStringS_calls a n c A _ (unhide HNA) f2 (unhide HRA _ (unhide HA2))).mono ?_
  rintro e w3 ⟨g3, rfl, ho, hb⟩
  have HA3 := hide (belOnT (unhide HA2) hb)
  have HS3 := hide ho.at
  clear hb ho HA2
  go_wp2_with fail
  refine (toStringS_calls a' n' c' B _ (unhide HNB) f2' (unhide HRB _ (unhide HA3))).mono ?_
  rintro e w4 ⟨g4, rfl, ho, hb⟩
  have HA4 := hide (belOnT (unhide HA3) hb)
  have HS4 := hide ((unhide HS3).below hb)
  have HS4' := hide ho.at
  clear hb ho HA3 HS3
  go_wp2_with fail
  refine (unhide HSP _ _ _ (unhide HTXA _ _ (unhide HS4)) (unhide HTXB _ _ (unhide HS4'))).mono ?_
  rintro e wS ⟨u1, u2, u3, rfl, ho1, ho2, ho3, hb⟩
  obtain ⟨b1, d1, hv⟩ := ho1.form
  rw [unhide HM1] at hv
  subst hv
  obtain ⟨b2, d2, hv⟩ := ho2.form
  rw [unhide HM2] at hv
  subst hv
  obtain ⟨b3, d3, hv⟩ := ho3.form
  rw [unhide HM3] at hv
  subst hv
  have HAS := hide (belOnT (unhide HA4) hb)
  have HZ1 := hide ho1.at.strs
  have HZ2 := hide ho2.at.strs
  have HZ3 := hide ho3.at.strs
  clear hb ho1 ho2 ho3 HA4 HS4 HS4' HSP
  have HARA := hide (fun (W : World) (h : Below wS.heap.size wS W) => unhide HRA W (belOnT (unhide HAS) h))
  have HARB := hide (fun (W : World) (h : Below wS.heap.size wS W) => unhide HRB W (belOnT (unhide HAS) h))
  have HIMS := hide (fun (W : World) (h : Below wS.heap.size wS W) => unhide HIM W (belOnT (unhide HAS) h))
  clear HRA HRB HIM
  go_wp2_with fail
  refine (toStringS_calls a n c A _ (unhide HNA) f2 (unhide HARA _ (Below.refl _ _))).mono ?_
  rintro e w5 ⟨g5, rfl, ho, hb⟩
  have hg5 := ho.blkT g5 0 rfl
  have HT5 := hide hb
  have HG5 := hide ho.at
  clear hb ho
  go_wp2_with fail
  refine (toStringS_calls a' n' c' B _ (unhide HNB) f2' (unhide HARB _ (unhide HT5))).mono ?_
  rintro e w6 ⟨g6, rfl, ho, hb⟩
  have hg6 := ho.blkT g6 0 rfl
  have HT6 := hide (belOnT (unhide HT5) hb)
  have HG6 := hide ((unhide HG5).below hb)
  have HH6 := hide ho.at
  clear hb ho HT5 HG5
  go_wp2_with fail
  refine (unhide HIMS _ (unhide HT6) _ _ (unhide HTXA _ _ (unhide HG6)) (unhide HTXB _ _ (unhide HH6))).mono ?_
  rintro e w7 ⟨u1, u2, u3, rfl, ht, hb⟩
  obtain ⟨ho1, ho2, ho3, p12, p13, p23⟩ := ht
  obtain ⟨a1, k1, hv⟩ := ho1.form
  rw [unhide HM1] at hv
  subst hv
  obtain ⟨a2, k2, hv⟩ := ho2.form
  rw [unhide HM2] at hv
  subst hv
  obtain ⟨a3, k3, hv⟩ := ho3.form
  rw [unhide HM3] at hv
  subst hv
  have HV1 := hide ho1.blkT
  have HV2 := hide ho2.blkT
  have HV3 := hide ho3.blkT
  have HP12 := hide p12
  have HP13 := hide p13
  have HP23 := hide p23
  have HT7 := hide (belOnT (unhide HT6) hb)
  have HG7 := hide ((unhide HG6).below hb)
  have HH7 := hide ((unhide HH6).below hb)
  have HX7 := hide ho1.at
  have HY7 := hide ho2.at
  have HW7 := hide ho3.at
  clear hb ho1 ho2 ho3 p12 p13 p23 HT6 HG6 HH6
  go_wp2_with fail
  refine (eqStringS_calls a1 b1 k1 d1 m1 O1 _ (unhide HM1) (by omega) (unhide HX7).strs ((unhide HZ1).below (unhide HT7))).mono ?_
  rintro e w8 ⟨rfl, hb⟩
  have HT8 := hide (belOnT (unhide HT7) hb)
  have HG8 := hide ((unhide HG7).below hb)
  have HH8 := hide ((unhide HH7).below hb)
  have HX8 := hide ((unhide HX7).below hb)
  have HY8 := hide ((unhide HY7).below hb)
  have HW8 := hide ((unhide HW7).below hb)
  clear hb HT7 HG7 HH7 HX7 HY7 HW7
  go_wp2_with fail
  refine (eqStringS_calls a2 b2 k2 d2 m2 O2 _ (unhide HM2) (by omega) (unhide HY8).strs ((unhide HZ2).below (unhide HT8))).mono ?_
  rintro e w9 ⟨rfl, hb⟩
  have HT9 := hide (belOnT (unhide HT8) hb)
  have HG9 := hide ((unhide HG8).below hb)
  have HH9 := hide ((unhide HH8).below hb)
  have HX9 := hide ((unhide HX8).below hb)
  have HY9 := hide ((unhide HY8).below hb)
  have HW9 := hide ((unhide HW8).below hb)
  clear hb HT8 HG8 HH8 HX8 HY8 HW8
  go_wp2_with fail
  refine (eqStringS_calls a3 b3 k3 d3 m3 O3 _ (unhide HM3) (by omega) (unhide HW9).strs ((unhide HZ3).below (unhide HT9))).mono ?_
  rintro e w10 ⟨rfl, hb⟩
  have HT10 := hide (belOnT (unhide HT9) hb)
  have HG10 := hide ((unhide HG9).below hb)
  have HH10 := hide ((unhide HH9).below hb)
  have HX10 := hide ((unhide HX9).below hb)
  have HY10 := hide ((unhide HY9).below hb)
  have HW10 := hide ((unhide HW9).below hb)
  clear hb HT9 HG9 HH9 HX9 HY9 HW9
  go_wp2_with fail
  refine (toStringS_calls a n c A _ (unhide HNA) f2 (unhide HARA _ (unhide HT10))).mono ?_
  rintro e w11 ⟨gx, rfl, ho, hb⟩
  have HQ := hide ho.at
  have HT11 := hide (belOnT (unhide HT10) hb)
  have HG11 := hide ((unhide HG10).below hb)
  have HH11 := hide ((unhide HH10).below hb)
  have HX11 := hide ((unhide HX10).below hb)
  have HY11 := hide ((unhide HY10).below hb)
  have HW11 := hide ((unhide HW10).below hb)
  clear hb ho HT10 HG10 HH10 HX10 HY10 HW10
  go_wp2_with fail
  refine (eqStringS_calls _ _ n n n A _ (unhide HNA) (by omega) (unhide HG11).strs (unhide HQ).strs).mono ?_
  rintro e w12 ⟨rfl, hb⟩
  have HT12 := hide (belOnT (unhide HT11) hb)
  have HG12 := hide ((unhide HG11).below hb)
  have HH12 := hide ((unhide HH11).below hb)
  have HX12 := hide ((unhide HX11).below hb)
  have HY12 := hide ((unhide HY11).below hb)
  have HW12 := hide ((unhide HW11).below hb)
  clear hb HT11 HG11 HH11 HX11 HY11 HW11
  clear HQ
  go_wp2_with fail
  refine (toStringS_calls a' n' c' B _ (unhide HNB) f2' (unhide HARB _ (unhide HT12))).mono ?_
  rintro e w13 ⟨gx, rfl, ho, hb⟩
  have HQ := hide ho.at
  have HT13 := hide (belOnT (unhide HT12) hb)
  have HG13 := hide ((unhide HG12).below hb)
  have HH13 := hide ((unhide HH12).below hb)
  have HX13 := hide ((unhide HX12).below hb)
  have HY13 := hide ((unhide HY12).below hb)
  have HW13 := hide ((unhide HW12).below hb)
  clear hb ho HT12 HG12 HH12 HX12 HY12 HW12
  go_wp2_with fail
  refine (eqStringS_calls _ _ n' n' n' B _ (unhide HNB) (by omega) (unhide HH13).strs (unhide HQ).strs).mono ?_
  rintro e w14 ⟨rfl, hb⟩
  have HT14 := hide (belOnT (unhide HT13) hb)
  have HG14 := hide ((unhide HG13).below hb)
  have HH14 := hide ((unhide HH13).below hb)
  have HX14 := hide ((unhide HX13).below hb)
  have HY14 := hide ((unhide HY13).below hb)
  have HW14 := hide ((unhide HW13).below hb)
  clear hb HT13 HG13 HH13 HX13 HY13 HW13
  clear HQ
  obtain ⟨s1, hs1⟩ : ∃ s : Nat, 1 + n = s := ⟨_, rfl⟩
  obtain ⟨s2, hs2⟩ : ∃ s : Nat, s1 + n' = s := ⟨_, rfl⟩
  have HK1 := hide (markStringS_calls 1 (some ⟨g5, 0, none⟩) n n A w14 (by omega) (by omega) (unhide HNA) (by omega) (unhide HG14))
  rw [hs1] at HK1
  go_wp2_with fail
  refine (unhide HK1).mono ?_
  rintro e w15 ⟨rfl, -, hb⟩
  have HT15 := hide ((unhide HT14).trans (hb.below (B := wS.heap.size) (fun g o e => by cases e; omega) (unhide HT14).size))
  have HH15 := hide (RowAt.onlyT (unhide HH14) hb (fun g o e o' e' => by cases e; cases e'; omega))
  have HX15 := hide (RowAt.onlyT (unhide HX14) hb (fun g o e o' e' => by have := unhide HV1 g o e; cases e'; omega))
  have HY15 := hide (RowAt.onlyT (unhide HY14) hb (fun g o e o' e' => by have := unhide HV2 g o e; cases e'; omega))
  have HW15 := hide (RowAt.onlyT (unhide HW14) hb (fun g o e o' e' => by have := unhide HV3 g o e; cases e'; omega))
  clear hb HT14 HH14 HX14 HY14 HW14
  clear HG14 HK1
  have HK1 := hide (markStringS_calls s1 (some ⟨g6, 0, none⟩) n' n' B w15 (by omega) (by omega) (unhide HNB) (by omega) (unhide HH15))
  rw [hs2] at HK1
  have hs2n : ¬ ((s2 : Int) < 0) := by omega
  go_wp2_with fail
  refine (unhide HK1).mono ?_
  rintro e w16 ⟨rfl, -, hb⟩
  have HT16 := hide ((unhide HT15).trans (hb.below (B := wS.heap.size) (fun g o e => by cases e; omega) (unhide HT15).size))
  have HX16 := hide (RowAt.onlyT (unhide HX15) hb (fun g o e o' e' => by have := unhide HV1 g o e; cases e'; omega))
  have HY16 := hide (RowAt.onlyT (unhide HY15) hb (fun g o e o' e' => by have := unhide HV2 g o e; cases e'; omega))
  have HW16 := hide (RowAt.onlyT (unhide HW15) hb (fun g o e o' e' => by have := unhide HV3 g o e; cases e'; omega))
  clear hb HT15 HX15 HY15 HW15
  clear HH15 HK1
  go_wp2_with fail
  refine (eqStringS_calls a1 b1 k1 d1 m1 O1 _ (unhide HM1) (by omega) (unhide HX16).strs ((unhide HZ1).below (unhide HT16))).mono ?_
  rintro e w17 ⟨rfl, hb⟩
  have HT17 := hide (belOnT (unhide HT16) hb)
  have HX17 := hide ((unhide HX16).below hb)
  have HY17 := hide ((unhide HY16).below hb)
  have HW17 := hide ((unhide HW16).below hb)
  clear hb HT16 HX16 HY16 HW16
  go_wp2_with fail
  refine (eqStringS_calls a2 b2 k2 d2 m2 O2 _ (unhide HM2) (by omega) (unhide HY17).strs ((unhide HZ2).below (unhide HT17))).mono ?_
  rintro e w18 ⟨rfl, hb⟩
  have HT18 := hide (belOnT (unhide HT17) hb)
  have HX18 := hide ((unhide HX17).below hb)
  have HY18 := hide ((unhide HY17).below hb)
  have HW18 := hide ((unhide HW17).below hb)
  clear hb HT17 HX17 HY17 HW17
  go_wp2_with fail
  refine (eqStringS_calls a3 b3 k3 d3 m3 O3 _ (unhide HM3) (by omega) (unhide HW18).strs ((unhide HZ3).below (unhide HT18))).mono ?_
  rintro e w19 ⟨rfl, hb⟩
  have HT19 := hide (belOnT (unhide HT18) hb)
  have HX19 := hide ((unhide HX18).below hb)
  have HY19 := hide ((unhide HY18).below hb)
  have HW19 := hide ((unhide HW18).below hb)
  clear hb HT18 HX18 HY18 HW18
  obtain ⟨t1, ht1⟩ : ∃ t : Nat, 1 + m1 = t := ⟨_, rfl⟩
  obtain ⟨t2, ht2⟩ : ∃ t : Nat, t1 + m2 = t := ⟨_, rfl⟩
  obtain ⟨t3, ht3⟩ : ∃ t : Nat, t2 + m3 = t := ⟨_, rfl⟩
  have t1n : ¬ ((t1 : Int) < 0) := by omega
  have t2n : ¬ ((t2 : Int) < 0) := by omega
  have t3n : ¬ ((t3 : Int) < 0) := by omega
  have HE1 := hide ht1
  have HE2 := hide ht2
  have HE3 := hide ht3
  have hb2 : t1 ≤ 100000000 := by omega
  have hb3 : t2 ≤ 100000000 := by omega
  have hc2 : 1 ≤ t1 := by omega
  have hc3 : 1 ≤ t2 := by omega
  clear hs1 hs2 ht1 ht2 ht3
  have HK1 := hide (markStringS_calls 1 a1 k1 m1 O1 w19 (by omega) (by omega) (unhide HM1) (by omega) (unhide HX19))
  rw [unhide HE1] at HK1
  go_wp2_with fail
  refine (unhide HK1).mono ?_
  rintro e w20 ⟨rfl, hr1, hb⟩
  have HT20 := hide ((unhide HT19).trans (hb.below (B := wS.heap.size) (fun g o e => by have := unhide HV1 g o e; omega) (unhide HT19).size))
  have HY20 := hide (RowAt.onlyT (unhide HY19) hb (unhide HP12).ne)
  have HW20 := hide (RowAt.onlyT (unhide HW19) hb (unhide HP13).ne)
  have HX20 := hide hr1
  clear hb HT19 HY19 HW19
  clear hr1 HX19 HK1
  have HK1 := hide (markStringS_calls t1 a2 k2 m2 O2 w20 hc2 hb2 (unhide HM2) (by omega) (unhide HY20))
  rw [unhide HE2] at HK1
  go_wp2_with fail
  refine (unhide HK1).mono ?_
  rintro e w21 ⟨rfl, hr1, hb⟩
  have HT21 := hide ((unhide HT20).trans (hb.below (B := wS.heap.size) (fun g o e => by have := unhide HV2 g o e; omega) (unhide HT20).size))
  have HX21 := hide (RowAt.onlyT (unhide HX20) hb (unhide HP12).symm.ne)
  have HW21 := hide (RowAt.onlyT (unhide HW20) hb (unhide HP23).ne)
  have HY21 := hide hr1
  clear hb HT20 HX20 HW20
  clear hr1 HY20 HK1
  have HK1 := hide (markStringS_calls t2 a3 k3 m3 O3 w21 hc3 hb3 (unhide HM3) (by omega) (unhide HW21))
  rw [unhide HE3] at HK1
  go_wp2_with fail
  refine (unhide HK1).mono ?_
  rintro e w22 ⟨rfl, hr1, hb⟩
  have HT22 := hide ((unhide HT21).trans (hb.below (B := wS.heap.size) (fun g o e => by have := unhide HV3 g o e; omega) (unhide HT21).size))
  have HX22 := hide (RowAt.onlyT (unhide HX21) hb (unhide HP13).symm.ne)
  have HY22 := hide (RowAt.onlyT (unhide HY21) hb (unhide HP23).symm.ne)
  have HW22 := hide hr1
  clear hb HT21 HX21 HY21
  clear hr1 HW21 HK1
  have HK1 := hide (heldStringS_calls 1 a1 k1 m1 w22 (by omega) (by omega) (by omega) (unhide HX22))
  rw [unhide HE1] at HK1
  go_wp2_with fail
  refine (unhide HK1).mono ?_
  rintro e w23 ⟨rfl, hb⟩
  have HT23 := hide (belOnT (unhide HT22) hb)
  have HX23 := hide ((unhide HX22).below hb)
  have HY23 := hide ((unhide HY22).below hb)
  have HW23 := hide ((unhide HW22).below hb)
  clear hb HT22 HX22 HY22 HW22
  clear HK1
  have HK1 := hide (heldStringS_calls t1 a2 k2 m2 w23 (by omega) (by omega) (by omega) (unhide HY23))
  rw [unhide HE2] at HK1
  go_wp2_with fail
  refine (unhide HK1).mono ?_
  rintro e w24 ⟨rfl, hb⟩
  have HT24 := hide (belOnT (unhide HT23) hb)
  have HX24 := hide ((unhide HX23).below hb)
  have HY24 := hide ((unhide HY23).below hb)
  have HW24 := hide ((unhide HW23).below hb)
  clear hb HT23 HX23 HY23 HW23
  clear HK1
  have HK1 := hide (heldStringS_calls t2 a3 k3 m3 w24 (by omega) (by omega) (by omega) (unhide HW24))
  rw [unhide HE3] at HK1
  go_wp2_with fail
  refine (unhide HK1).mono ?_
  rintro e w25 ⟨rfl, hb⟩
  have HT25 := hide (belOnT (unhide HT24) hb)
  have HX25 := hide ((unhide HX24).below hb)
  have HY25 := hide ((unhide HY24).below hb)
  have HW25 := hide ((unhide HW24).below hb)
  clear hb HT24 HX24 HY24 HW24
  clear HK1
  go_wp2_with fail
  refine (toStringS_calls a n c A _ (unhide HNA) f2 (unhide HARA _ (unhide HT25))).mono ?_
  rintro e w26 ⟨gy, rfl, ho, hb⟩
  have HQ := hide ho.at
  have HT26 := hide (belOnT (unhide HT25) hb)
  have HX26 := hide ((unhide HX25).below hb)
  have HY26 := hide ((unhide HY25).below hb)
  have HW26 := hide ((unhide HW25).below hb)
  clear hb ho HT25 HX25 HY25 HW25
  go_wp2_with fail
  refine (toStringS_calls a' n' c' B _ (unhide HNB) f2' (unhide HARB _ (unhide HT26))).mono ?_
  rintro e w27 ⟨gz, rfl, ho, hb⟩
  have HQ2 := hide ((unhide HQ).below hb)
  have HQ2' := hide ho.at
  have HT27 := hide (belOnT (unhide HT26) hb)
  have HX27 := hide ((unhide HX26).below hb)
  have HY27 := hide ((unhide HY26).below hb)
  have HW27 := hide ((unhide HW26).below hb)
  clear hb ho HQ HT26 HX26 HY26 HW26
  go_wp2_with fail
  refine (unhide HIMS _ (unhide HT27) _ _ (unhide HTXA _ _ (unhide HQ2)) (unhide HTXB _ _ (unhide HQ2'))).mono ?_
  rintro e w28 ⟨u1, u2, u3, rfl, ht, hb⟩
  obtain ⟨ho1, ho2, ho3, -, -, -⟩ := ht
  obtain ⟨z1, y1, hv⟩ := ho1.form
  rw [unhide HM1] at hv
  subst hv
  obtain ⟨z2, y2, hv⟩ := ho2.form
  rw [unhide HM2] at hv
  subst hv
  obtain ⟨z3, y3, hv⟩ := ho3.form
  rw [unhide HM3] at hv
  subst hv
  have HR28 := hide ho1.at
  have HS28 := hide ho2.at
  have HU28 := hide ho3.at
  have HT28 := hide (belOnT (unhide HT27) hb)
  have HX28 := hide ((unhide HX27).below hb)
  have HY28 := hide ((unhide HY27).below hb)
  have HW28 := hide ((unhide HW27).below hb)
  clear hb ho1 ho2 ho3 HQ2 HQ2' HT27 HX27 HY27 HW27
  go_wp2_with fail
  refine (eqStringS_calls z1 b1 y1 d1 m1 O1 _ (unhide HM1) (by omega) (unhide HR28).strs ((unhide HZ1).below (unhide HT28))).mono ?_
  rintro e w29 ⟨rfl, hb⟩
  have HT29 := hide (belOnT (unhide HT28) hb)
  have HX29 := hide ((unhide HX28).below hb)
  have HY29 := hide ((unhide HY28).below hb)
  have HW29 := hide ((unhide HW28).below hb)
  have HR29 := hide ((unhide HR28).below hb)
  have HS29 := hide ((unhide HS28).below hb)
  have HU29 := hide ((unhide HU28).below hb)
  clear hb HT28 HX28 HY28 HW28 HR28 HS28 HU28
  go_wp2_with fail
  refine (eqStringS_calls z2 b2 y2 d2 m2 O2 _ (unhide HM2) (by omega) (unhide HS29).strs ((unhide HZ2).below (unhide HT29))).mono ?_
  rintro e w30 ⟨rfl, hb⟩
  have HT30 := hide (belOnT (unhide HT29) hb)
  have HX30 := hide ((unhide HX29).below hb)
  have HY30 := hide ((unhide HY29).below hb)
  have HW30 := hide ((unhide HW29).below hb)
  have HR30 := hide ((unhide HR29).below hb)
  have HS30 := hide ((unhide HS29).below hb)
  have HU30 := hide ((unhide HU29).below hb)
  clear hb HT29 HX29 HY29 HW29 HR29 HS29 HU29
  go_wp2_with fail
  refine (eqStringS_calls z3 b3 y3 d3 m3 O3 _ (unhide HM3) (by omega) (unhide HU30).strs ((unhide HZ3).below (unhide HT30))).mono ?_
  rintro e w31 ⟨rfl, hb⟩
  have HT31 := hide (belOnT (unhide HT30) hb)
  have HX31 := hide ((unhide HX30).below hb)
  have HY31 := hide ((unhide HY30).below hb)
  have HW31 := hide ((unhide HW30).below hb)
  clear hb HT30 HX30 HY30 HW30 HR30 HS30 HU30
  have HK1 := hide (heldStringS_calls 1 a1 k1 m1 w31 (by omega) (by omega) (by omega) (unhide HX31))
  rw [unhide HE1] at HK1
  go_wp2_with fail
  refine (unhide HK1).mono ?_
  rintro e w32 ⟨rfl, hb⟩
  have HT32 := hide (belOnT (unhide HT31) hb)
  have HX32 := hide ((unhide HX31).below hb)
  have HY32 := hide ((unhide HY31).below hb)
  have HW32 := hide ((unhide HW31).below hb)
  clear hb HT31 HX31 HY31 HW31
  clear HK1
  have HK1 := hide (heldStringS_calls t1 a2 k2 m2 w32 (by omega) (by omega) (by omega) (unhide HY32))
  rw [unhide HE2] at HK1
  go_wp2_with fail
  refine (unhide HK1).mono ?_
  rintro e w33 ⟨rfl, hb⟩
  have HT33 := hide (belOnT (unhide HT32) hb)
  have HX33 := hide ((unhide HX32).below hb)
  have HY33 := hide ((unhide HY32).below hb)
  have HW33 := hide ((unhide HW32).below hb)
  clear hb HT32 HX32 HY32 HW32
  clear HK1
  have HK1 := hide (heldStringS_calls t2 a3 k3 m3 w33 (by omega) (by omega) (by omega) (unhide HW33))
  rw [unhide HE3] at HK1
  go_wp2_with fail
  refine (unhide HK1).mono ?_
  rintro e w34 ⟨rfl, hb⟩
  have HT34 := hide (belOnT (unhide HT33) hb)
  have HX34 := hide ((unhide HX33).below hb)
  have HY34 := hide ((unhide HY33).below hb)
  have HW34 := hide ((unhide HW33).below hb)
  clear hb HT33 HX33 HY33 HW33
  clear HK1
  go_wp2_with fail
  go_ret
  exact ⟨rfl, belOnT (unhide HAS) (unhide HT34)⟩
end fnExactSteps
end Go.Proofs.YtldgkpnlplfopaaDoor

