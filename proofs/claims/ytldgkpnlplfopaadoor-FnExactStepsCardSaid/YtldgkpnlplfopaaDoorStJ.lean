/- Steps by the program. -/
import Derived.Test.YtldgkpnlplfopaaDoorStI
import Derived.Test.YtldgkpnlplfopaaDoorWzB
namespace Go.Proofs.YtldgkpnlplfopaaDoor
open Go.RowKit Go.Maps Plain
set_option linter.unusedVariables false

/-- What the program's Steps answers. -/
def Plain.StpI (A B : List ByteArray) (w : World) (e : Ending) (w' : World) : Prop := ∃ v1 v2 v3, e = .returned (.tuple #[v1, v2, v3, .bool (stOk A B)]) ∧ Tri w' w.heap.size v1 v2 v3 (asL A B) (mrL A B) (leL A B) ∧ Below w.heap.size w w'

set_option maxRecDepth 10000 in
set_option maxHeartbeats 2000000 in
theorem impl_StepsNo (a : Option Addr) (n c : Nat) (A : List ByteArray) (a' : Option Addr) (n' c' : Nat) (B : List ByteArray) (w : World) (h : TxtsAt w a n A) (h' : TxtsAt w a' n' B) (hno : stOk A B = false) :
    Calls Tryd.prog 11 #[.slice a n c, .slice a' n' c'] w (StpI A B w) := by
  unfold StpI asL mrL leL
  rw [hno]
  simp only [Bool.false_eq_true, if_false]
  have HA := hide (readSet_calls a n c A w h)
  have HB := hide (fun (W : World) (hW : Below w.heap.size w W) => readSet_calls a' n' c' B W (h'.below hW))
  unfold stOk at hno
  clear h h'
  have HT := hide (fun W => (show Tri W w.heap.size (.slice none 0 0) (.slice none 0 0) (.slice none 0 0) [] [] [] from ⟨ownR_nil _ _ _, ownR_nil _ _ _, ownR_nil _ _ _, fun g hg => by simp [Value.ownBlock] at hg, fun g hg => by simp [Value.ownBlock] at hg, fun g hg => by simp [Value.ownBlock] at hg⟩))
  cases hA : setB A with
  | false =>
    rw [hA] at HA
    generalize setB B = sb at HB
    clear hno
    go_enter Tryd.func11, Tryd.ntmps11
    go_wp2_with fail
    refine (unhide HA).mono ?_
    rintro e w1 ⟨m1, rfl, hb1⟩
    have HB1 := hide hb1
    clear hb1
    go_wp2_with fail
    refine (unhide HB _ (unhide HB1)).mono ?_
    rintro e w2 ⟨m2, rfl, hb2⟩
    have HB2 := hide (belOnT (unhide HB1) hb2)
    clear hb2
    go_wp2_with fail
    exact bodyPost_ret (v := .tuple #[.slice none 0 0, .slice none 0 0, .slice none 0 0, .bool false]) (by simp [results, Tryd.results11, go_sem]) rfl ⟨_, _, _, rfl, unhide HT _, unhide HB2⟩
  | true =>
    rw [hA] at HA hno
    rw [Bool.true_and] at hno
    rw [hno] at HB
    go_enter Tryd.func11, Tryd.ntmps11
    go_wp2_with fail
    refine (unhide HA).mono ?_
    rintro e w1 ⟨m1, rfl, hb1⟩
    have HB1 := hide hb1
    clear hb1
    go_wp2_with fail
    refine (unhide HB _ (unhide HB1)).mono ?_
    rintro e w2 ⟨m2, rfl, hb2⟩
    have HB2 := hide (belOnT (unhide HB1) hb2)
    clear hb2
    go_wp2_with fail
    exact bodyPost_ret (v := .tuple #[.slice none 0 0, .slice none 0 0, .slice none 0 0, .bool false]) (by simp [results, Tryd.results11, go_sem]) rfl ⟨_, _, _, rfl, unhide HT _, unhide HB2⟩

set_option maxRecDepth 100000 in
set_option maxHeartbeats 8000000 in
theorem impl_StepsYes (a : Option Addr) (n c : Nat) (A : List ByteArray) (a' : Option Addr) (n' c' : Nat) (B : List ByteArray) (w : World) (h : TxtsAt w a n A) (h' : TxtsAt w a' n' B) (hA : setB A = true) (hB : setB B = true) (hK : KAt w) :
    Calls Tryd.prog 11 #[.slice a n c, .slice a' n' c'] w (StpI A B w) := by
  have h0 : 1 < w.heap.size := lt_of_cell (hK 0 (by omega))
  have hyes : stOk A B = true := by unfold stOk; rw [hA, hB]; rfl
  unfold StpI asL mrL leL
  rw [hyes]
  simp only [if_true]
  obtain ⟨sA1, sA2, sA3⟩ := setB_all hA
  obtain ⟨sB1, sB2, sB3⟩ := setB_all hB
  have k32 : ∀ (L : List ByteArray), ∀ x ∈ L.map kyL, x.length = 32 := fun L x hx => by obtain ⟨y, _, rfl⟩ := List.mem_map.1 hx; exact kyL_len y
  have HRA := hide (readY_calls a n c A w h hA)
  have HRB := hide (fun (W : World) (hW : Below w.heap.size w W) => readY_calls a' n' c' B W (h'.below hW) hB)
  have HKA := hide (fun (W : World) (b nn : Nat) (q : KSet W b nn (A.map kyL)) => keys_calls b nn _ (risK_map sA2 sA3) (k32 A) (by rw [List.length_map]; omega) W q)
  have HKB := hide (fun (W : World) (b nn : Nat) (q : KSet W b nn (B.map kyL)) => keys_calls b nn _ (risK_map sB2 sB3) (k32 B) (by rw [List.length_map]; omega) W q)
  have HTA := hide (fun (W : World) (hW : Below w.heap.size w W) (a : Option Addr) (m c : Nat) (q : RowAt keyE W a (A.map kyL)) (hm : (A.map kyL).length = m) => (show Calls Tryd.prog 19 #[.slice a m c, .agg #[.int .i64 0, .int .u8 0]] W fun e w' => ∃ b, e = .returned (.map (some b)) ∧ W.heap.size ≤ b ∧ TrAt w' b (cnt (2 - 0)) (grF (A.map kyL) 0 0 (fun _ _ => none)) ∧ Below W.heap.size W w' from treeOf_calls 0 0 (by omega) (by decide) a m c _ W q hm (by rw [List.length_map] at hm; omega) (k32 A) (hK.below hW h0)))
  have HTB := hide (fun (W : World) (hW : Below w.heap.size w W) (a : Option Addr) (m c : Nat) (q : RowAt keyE W a (B.map kyL)) (hm : (B.map kyL).length = m) => (show Calls Tryd.prog 19 #[.slice a m c, .agg #[.int .i64 0, .int .u8 0]] W fun e w' => ∃ b, e = .returned (.map (some b)) ∧ W.heap.size ≤ b ∧ TrAt w' b (cnt (2 - 0)) (grF (B.map kyL) 0 0 (fun _ _ => none)) ∧ Below W.heap.size W w' from treeOf_calls 0 0 (by omega) (by decide) a m c _ W q hm (by rw [List.length_map] at hm; omega) (k32 B) (hK.below hW h0)))
  have HAS := hide (fun (W : World) (ba bb na nb : Nat) (tA : TrAt W ba na (grF (A.map kyL) 0 0 (fun _ _ => none))) (tB : TrAt W bb nb (grF (B.map kyL) 0 0 (fun _ _ => none))) => (show Calls Tryd.prog 25 #[.map (some ba), .map (some bb)] W fun e w' => ∃ v1 v2, e = .returned (.tuple #[v1, v2]) ∧ OwnR brE w' W.heap.size v1 (askB (dfB A B)) ∧ OwnR brE w' W.heap.size v2 (unlB (dfB A B)) ∧ Below W.heap.size W w' from by
    have := askedOf_calls ba na bb nb (fun q => tN (A.map kyL) q.1 q.2) (fun q => tN (B.map kyL) q.1 q.2) _ _ (fun q hq => grF_root hq) (fun q hq => grF_root hq) (fun q => tN_len _ _ _) (fun q => tN_len _ _ _) W tA tB
    rw [askB_like (df_like hA hB), unlB_like (df_like hA hB)] at this
    exact this))
  have HWA := hide (fun (W : World) (bA nA bB nB : Nat) (qA : KSet W bA nA (A.map kyL)) (qB : KSet W bB nB (B.map kyL)) => without_calls bA nA bB nB A B hA hB W qA qB)
  have HWB := hide (fun (W : World) (bA nA bB nB : Nat) (qA : KSet W bA nA (A.map kyL)) (qB : KSet W bB nB (B.map kyL)) => without_calls bB nB bA nA B A hB hA W qB qA)
  obtain ⟨xA1, xA2, xA3⟩ := exB_set (B := B) hA
  obtain ⟨xB1, xB2, xB3⟩ := exB_set (B := A) hB
  have HXA := hide (fun (W : World) (b nn : Nat) (q : KLe W b nn ((exB A B).map kyL)) => keysL_calls b nn _ (risK_map xA2 xA3) (k32 _) (by rw [List.length_map]; omega) W q)
  have HXB := hide (fun (W : World) (b nn : Nat) (q : KLe W b nn ((exB B A).map kyL)) => keysL_calls b nn _ (risK_map xB2 xB3) (k32 _) (by rw [List.length_map]; omega) W q)
  obtain ⟨f1, f2, f3, f4⟩ := ask_facts (dfB A B)
  have HFG := hide f2
  have HUA := hide (fun (W : World) (a : Option Addr) (m c : Nat) (a' : Option Addr) (m' c' : Nat) (r : RowAt brE W a (unlB (dfB A B))) (hm : (unlB (dfB A B)).length = m) (r' : RowAt keyE W a' ((exB A B).map kyL)) (hm' : ((exB A B).map kyL).length = m') => (show Calls Tryd.prog 27 #[.slice a m c, .slice a' m' c'] W fun e w' => ∃ v, e = .returned v ∧ OwnR strE w' W.heap.size v ((unlB (dfB A B)).flatMap (lsB A B)) ∧ Below W.heap.size W w' from by
    rw [← flat_ls hA _ f4]
    exact underAny_calls a m c _ a' m' c' _ W r hm (by omega) f4 r' hm' (by rw [List.length_map] at hm'; omega) (k32 _)))
  have HUB := hide (fun (W : World) (a : Option Addr) (m c : Nat) (a' : Option Addr) (m' c' : Nat) (r : RowAt brE W a (unlB (dfB A B))) (hm : (unlB (dfB A B)).length = m) (r' : RowAt keyE W a' ((exB B A).map kyL)) (hm' : ((exB B A).map kyL).length = m') => (show Calls Tryd.prog 27 #[.slice a m c, .slice a' m' c'] W fun e w' => ∃ v, e = .returned v ∧ OwnR strE w' W.heap.size v ((unlB (dfB A B)).flatMap (lsB B A)) ∧ Below W.heap.size W w' from by
    rw [← flat_ls hB _ f4]
    exact underAny_calls a m c _ a' m' c' _ W r hm (by omega) f4 r' hm' (by rw [List.length_map] at hm'; omega) (k32 _)))
  obtain ⟨LA, hLA⟩ : ∃ LA, A.length = LA := ⟨_, rfl⟩
  obtain ⟨LB, hLB⟩ : ∃ LB, B.length = LB := ⟨_, rfl⟩
  obtain ⟨XA, hXA⟩ : ∃ XA, (exB A B).length = XA := ⟨_, rfl⟩
  obtain ⟨XB, hXB⟩ : ∃ XB, (exB B A).length = XB := ⟨_, rfl⟩
  have HLA := hide (show (A.map kyL).length = LA from by rw [List.length_map]; exact hLA)
  have HLB := hide (show (B.map kyL).length = LB from by rw [List.length_map]; exact hLB)
  have HNA := hide (show ((exB A B).map kyL).length = XA from by rw [List.length_map]; exact hXA)
  have HNB := hide (show ((exB B A).map kyL).length = XB from by rw [List.length_map]; exact hXB)
  generalize askB (dfB A B) = K at HAS HFG f1 ⊢
  generalize unlB (dfB A B) = U at HAS HUA HUB f3 ⊢
  generalize U.flatMap (lsB A B) = MR at HUA ⊢
  generalize U.flatMap (lsB B A) = LE at HUB ⊢
  obtain ⟨mk, hmk⟩ : ∃ mk, K.length = mk := ⟨_, rfl⟩
  obtain ⟨mu, hmu⟩ : ∃ mu, U.length = mu := ⟨_, rfl⟩
  rw [hmk] at f1
  rw [hmu] at f3
  have HMK := hide hmk
  have HMU := hide hmu
  clear h h' hA hB hK hyes sA1 sA2 sA3 sB1 sB2 sB3 k32 xA1 xA2 xA3 xB1 xB2 xB3 f2 f4 hLA hLB hXA hXB hmk hmu
  go_enter Tryd.func11, Tryd.ntmps11
  go_wp2_with fail
  refine (unhide HRA).mono ?_
  rintro e w1 ⟨bA, rfl, hbA, hkA, hb1⟩
  have HB1 := hide hb1
  have HSA1 := hide hkA
  clear hb1 hkA HRA
  go_wp2_with fail
  refine (unhide HRB _ (unhide HB1)).mono ?_
  rintro e w2 ⟨bB, rfl, hbB, hkB, hb2⟩
  have HB2 := hide (belOnT (unhide HB1) hb2)
  have HSA := hide (fun (W : World) (hW : Below w2.heap.size w2 W) => ((unhide HSA1).below hb2 (unhide HSA1).lt).below hW ((unhide HSA1).below hb2 (unhide HSA1).lt).lt)
  have HSB := hide (fun (W : World) (hW : Below w2.heap.size w2 W) => hkB.below hW hkB.lt)
  clear hb2 hkB HRB HSA1 HB1
  have HK3 := hide (unhide HKA w2 _ _ (unhide HSA w2 (Below.refl _ _)))
  go_wp2_with fail
  refine (unhide HK3).mono ?_
  rintro e w3 ⟨v3, rfl, o3, hb3⟩
  obtain ⟨a3, c3, hv3⟩ := o3.form
  rw [unhide HLA] at hv3
  subst hv3
  have HX3 := hide hb3
  have HT4 := hide (unhide HTA w3 (belOnT (unhide HB2) hb3) a3 LA c3 o3.at (unhide HLA))
  clear o3 hb3 HK3 HKA HTA
  go_wp2_with fail
  refine (unhide HT4).mono ?_
  rintro e w4 ⟨b4, rfl, -, ht4, hb4⟩
  have HX4 := hide (belOnT (unhide HX3) hb4)
  have HTR4 := hide ht4
  have HK5 := hide (unhide HKB w4 _ _ (unhide HSB w4 (unhide HX4)))
  clear ht4 hb4 HT4 HX3 HKB
  go_wp2_with fail
  refine (unhide HK5).mono ?_
  rintro e w5 ⟨v5, rfl, o5, hb5⟩
  obtain ⟨a5, c5, hv5⟩ := o5.form
  rw [unhide HLB] at hv5
  subst hv5
  have HX5 := hide (belOnT (unhide HX4) hb5)
  have HTR5 := hide ((unhide HTR4).below hb5 (unhide HTR4).lt)
  have HT6 := hide (unhide HTB w5 (belOnT (unhide HB2) (unhide HX5)) a5 LB c5 o5.at (unhide HLB))
  clear o5 hb5 HK5 HTR4 HX4 HTB
  go_wp2_with fail
  refine (unhide HT6).mono ?_
  rintro e w6 ⟨b6, rfl, -, ht6, hb6⟩
  have HX6 := hide (belOnT (unhide HX5) hb6)
  have HTR6 := hide ((unhide HTR5).below hb6 (unhide HTR5).lt)
  have HA7 := hide (unhide HAS w6 b4 b6 _ _ (unhide HTR6) ht6)
  clear ht6 hb6 HT6 HTR5 HX5 HTR6 HAS
  go_wp2_with fail
  refine (unhide HA7).mono ?_
  rintro e w7 ⟨v7, u7, rfl, o7, p7, hb7⟩
  obtain ⟨a7, c7, hv7⟩ := o7.form
  rw [unhide HMK] at hv7
  subst hv7
  obtain ⟨a8, c8, hv8⟩ := p7.form
  rw [unhide HMU] at hv8
  subst hv8
  have HX7 := hide (belOnT (unhide HX6) hb7)
  have HRK := hide o7.at
  have HRU := hide p7.at
  clear o7 p7 hb7 HA7 HX6
  go_wp2_with fail
  go_loopw [14, 16, 49] (fun s14 _ s49 wr => ∃ (i : Nat) (ta : Option Addr) (tc : Nat), s49 = .int .i64 i ∧ s14 = .slice ta i tc ∧ i ≤ mk ∧ Hid (OwnR strE wr w7.heap.size (.slice ta i tc) ((K.take i).map prT)) ∧ Hid (Below w7.heap.size w7 wr)) (fun _ _ s49 _ => mk - (intOf s49).toNat)
  case atStart => exact ⟨0, none, 0, rfl, rfl, by omega, hide (ownR_nil _ _ _), hide (Below.refl _ _)⟩
  case round =>
    obtain ⟨i, ta, tc, rfl, rfl, hi, HO, HB⟩ := hrel
    by_cases hlt : i < mk
    · have hil : i < K.length := by rw [unhide HMK]; exact hlt
      obtain ⟨g, e1, hgl, q0, q1⟩ := ((unhide HRK).below (unhide HB)).br i hil
      subst e1
      have hgd := unhide HFG K[i] (List.getElem_mem _)
      have HNX := hide (show (K.take (i + 1)).map prT = (K.take i).map prT ++ [prT K[i]] from by rw [List.take_succ_eq_append_getElem hil, List.map_append]; rfl)
      have HLN := hide (show ((K.take i).map prT).length = i from by rw [List.length_map, List.length_take]; omega)
      generalize K[i] = q at q0 q1 hgd HNX
      obtain ⟨n1, z⟩ := q
      simp only at q0 q1
      have HPR := hide (fun W => prefix_calls n1 z hgd W)
      have hps : (prT (n1, z)).size ≤ 2 := by rw [prT_size hgd]; exact hgd.1
      generalize prT (n1, z) = T at HPR HNX hps
      unfold brV at HPR
      have hinf := infB2 (.int .i64 (n1 : Int)) (.int .u8 (z : Int))
      have hall := allB2 (n1 : Int) (z : Int) .i64 .u8
      have hold : (#[.int .i64 0, .int .u8 0] : Array Value).size = (#[.int .i64 (n1 : Int), .int .u8 (z : Int)] : Array Value).size := rfl
      obtain ⟨W4, hW4⟩ : ∃ W4, wr.alloc (.cells #[.int .i64 0, .int .u8 0] 39) = W4 := ⟨_, rfl⟩
      have hnew4 : W4.heap[wr.heap.size]? = some (.cells #[.int .i64 0, .int .u8 0] 39 (0, 0)) := by rw [← hW4]; exact heap_alloc_new _ _
      have hs4 : wr.heap.size < W4.heap.size := by rw [← hW4]; simp
      have HB4 := hide (show Below wr.heap.size wr W4 from by rw [← hW4]; exact (Below.refl _ _).alloc (Nat.le_refl _) _)
      have i0 : (0 : Int) ≤ (i : Int) := by omega
      have i1 : (i : Int) < (mk : Int) := by omega
      clear hil hgd
      go_wp2_with (first
        | (refine wpList_store_any rfl 39 (.tmp 16) (.tmp 52) rfl wr.heap.size #[.int .i64 (n1 : Int), .int .u8 (z : Int)] rfl rfl 39 #[.int .i64 0, .int .u8 0] (by first | exact hnew4 | (rw [hW4]; exact hnew4)) hinf hold hall ?_; intro wx hrow5 hgr5 hsz5; (try rw [hW4] at hgr5 hsz5))
        | (refine wpList_load_row rfl 39 (.tmp 16) rfl wr.heap.size rfl 39 #[.int .i64 (n1 : Int), .int .u8 (z : Int)] (0, 0) _ hrow5 Tryd.underlying39 rfl hinf ?_))
      have HBx := hide ((unhide HB4).grown hgr5 (Nat.le_of_lt hs4) (fun k e => by cases e; exact Nat.le_refl _))
      have HOx := hide ((unhide HO).keep (unhide HBx))
      have HWx := hide (belOnT (unhide HB) (unhide HBx))
      clear hrow5 hgr5 hsz5 q0 q1 HO HB4 HBx hnew4
      refine (unhide HPR _).mono ?_
      rintro e wy ⟨rfl, hby⟩
      have HOy := hide ((unhide HOx).keep hby)
      have HWy := hide (belOnT (unhide HWx) hby)
      have hzy : w7.heap.size ≤ wy.heap.size := (unhide HWy).size
      have hlb : ((K.take i).map prT).length < 100000000 := by rw [unhide HLN]; omega
      clear hby HOx HWx HPR
      go_wp2_with (at_builtin; refine appR (e := strE) rfl _ _ rfl (unhide HOy) rfl T rfl _ rfl rfl hlb hzy ?_; intro v9 w9 hO9 hb9 hg9; obtain ⟨a9, c9, hv9⟩ := hO9.form; rw [List.length_append, unhide HLN, List.length_singleton] at hv9; subst hv9)
      have HO9 := hide hO9
      have HB9 := hide ((unhide HWy).trans hb9)
      clear hO9 hb9 hg9 HOy HWy
      go_wp2_with fail
      go_roundw
      case rel => exact ⟨i + 1, a9, c9, by go_num, rfl, by omega, hide (by rw [unhide HNX]; exact unhide HO9), HB9⟩
      case measure => simp [intOf]; omega
    · obtain rfl : i = mk := by omega
      have hO := unhide HO
      rw [List.take_of_length_le (by rw [unhide HMK]; exact Nat.le_refl _)] at hO
      have HOP := hide hO
      have HX8 := hide (belOnT (unhide HX7) (unhide HB))
      have HRU8 := hide ((unhide HRU).below (unhide HB))
      have HW10 := hide (unhide HWA wr _ _ _ _ (unhide HSA wr (unhide HX8)) (unhide HSB wr (unhide HX8)))
      have hz8 : w.heap.size ≤ w7.heap.size := (belOnT (unhide HB2) (unhide HX7)).size
      clear hO HO HWA HX7 HRK HRU HFG HB
      go_wp2_with fail
      refine (unhide HW10).mono ?_
      rintro e w10 ⟨b10, rfl, hk10, hb10⟩
      have HX10 := hide (belOnT (unhide HX8) hb10)
      have HRU10 := hide ((unhide HRU8).below hb10)
      have HOP10 := hide ((unhide HOP).keep hb10)
      have HK11 := hide (unhide HXA w10 _ _ hk10)
      clear hk10 hb10 HW10 HX8 HRU8 HOP HXA
      go_wp2_with fail
      refine (unhide HK11).mono ?_
      rintro e w11 ⟨v11, rfl, o11, hb11⟩
      obtain ⟨a11, c11, hv11⟩ := o11.form
      rw [unhide HNA] at hv11
      subst hv11
      have HX11 := hide (belOnT (unhide HX10) hb11)
      have HRU11 := hide ((unhide HRU10).below hb11)
      have HOP11 := hide ((unhide HOP10).keep hb11)
      have HU12 := hide (unhide HUA w11 a8 mu c8 a11 XA c11 (unhide HRU11) (unhide HMU) o11.at (unhide HNA))
      clear o11 hb11 HK11 HX10 HRU10 HOP10 HUA
      go_wp2_with fail
      refine (unhide HU12).mono ?_
      rintro e w12 ⟨v12, rfl, o12, hb12⟩
      have hap12 := ApT.new (unhide HOP11) o12 (Nat.le_refl _)
      obtain ⟨a12, c12, hv12⟩ := o12.form
      generalize MR.length = m12 at hv12
      subst hv12
      have HX12 := hide (belOnT (unhide HX11) hb12)
      have HRU12 := hide ((unhide HRU11).below hb12)
      have HOP12 := hide ((unhide HOP11).keep hb12)
      have HMR12 := hide o12
      have HAP12 := hide hap12
      have hz11 : w.heap.size ≤ w11.heap.size := (belOnT (unhide HB2) (unhide HX11)).size
      have HW13 := hide (unhide HWB w12 _ _ _ _ (unhide HSA w12 (unhide HX12)) (unhide HSB w12 (unhide HX12)))
      clear o12 hb12 hap12 HU12 HX11 HRU11 HOP11 HWB
      go_wp2_with fail
      refine (unhide HW13).mono ?_
      rintro e w13 ⟨b13, rfl, hk13, hb13⟩
      have HX13 := hide (belOnT (unhide HX12) hb13)
      have HRU13 := hide ((unhide HRU12).below hb13)
      have HOP13 := hide ((unhide HOP12).keep hb13)
      have HMR13 := hide ((unhide HMR12).keep hb13)
      have HK14 := hide (unhide HXB w13 _ _ hk13)
      clear hk13 hb13 HW13 HX12 HRU12 HOP12 HMR12 HXB
      go_wp2_with fail
      refine (unhide HK14).mono ?_
      rintro e w14 ⟨v14, rfl, o14, hb14⟩
      obtain ⟨a14, c14, hv14⟩ := o14.form
      rw [unhide HNB] at hv14
      subst hv14
      have HX14 := hide (belOnT (unhide HX13) hb14)
      have HRU14 := hide ((unhide HRU13).below hb14)
      have HOP14 := hide ((unhide HOP13).keep hb14)
      have HMR14 := hide ((unhide HMR13).keep hb14)
      have HU15 := hide (unhide HUB w14 a8 mu c8 a14 XB c14 (unhide HRU14) (unhide HMU) o14.at (unhide HNB))
      clear o14 hb14 HK14 HX13 HRU13 HOP13 HMR13 HUB
      go_wp2_with fail
      refine (unhide HU15).mono ?_
      rintro e w15 ⟨v15, rfl, o15, hb15⟩
      have h13 := ApT.new (unhide HOP14) o15 (Nat.le_refl _)
      have h23 := ApT.new (unhide HMR14) o15 (Nat.le_refl _)
      have hz14 : w.heap.size ≤ w14.heap.size := (belOnT (unhide HB2) (unhide HX14)).size
      have hTri : Tri w15 w.heap.size (.slice ta i tc) (.slice a12 m12 c12) v15 (K.map prT) MR LE := ⟨OwnR.le ((unhide HOP14).keep hb15) hz8, OwnR.le ((unhide HMR14).keep hb15) hz11, OwnR.le o15 hz14, unhide HAP12, h13, h23⟩
      obtain ⟨a15, c15, hv15⟩ := o15.form
      generalize LE.length = m15 at hv15
      subst hv15
      have HTR := hide hTri
      have HB15 := hide (belOnT (belOnT (unhide HB2) (unhide HX14)) hb15)
      clear o15 hb15 h13 h23 hTri HU15 HX14 HRU14 HOP14 HMR14
      go_wp2_with fail
      exact bodyPost_ret (v := .tuple #[.slice ta i tc, .slice a12 m12 c12, .slice a15 m15 c15, .bool true]) (by simp [results, Tryd.results11, go_sem]) rfl ⟨_, _, _, rfl, unhide HTR, unhide HB15⟩
end Go.Proofs.YtldgkpnlplfopaaDoor
