/- Texts of one kind, put together. -/
import Derived.Test.YtldgkpnlplfopaaGreatDoorQzA
import Derived.Test.YtldgkpnlplfopaaGreatDoorWzB
import Derived.Test.YtldgkpnlplfopaaGreatDoorLzA

/- Steps by the program. -/
namespace Go.Proofs.YtldgkpnlplfopaaGreatDoor
open Go.RowKit Go.Maps Plain
set_option linter.unusedVariables false

/-- What the program's Steps answers. -/
def Plain.StpI (A B : List ByteArray) (w : World) (e : Ending) (w' : World) : Prop := ∃ v1 v2 v3, e = .returned (.tuple #[v1, v2, v3, .bool (stOk A B)]) ∧ Tri w' w.heap.size v1 v2 v3 (asL A B) (mrL A B) (leL A B) ∧ Below w.heap.size w w'

set_option maxRecDepth 10000 in
set_option maxHeartbeats 2000000 in
theorem impl_StepsNo (a : Option Addr) (n c : Nat) (A : List ByteArray) (a' : Option Addr) (n' c' : Nat) (B : List ByteArray) (w : World) (h : TxtsAt w a n A) (h' : TxtsAt w a' n' B) (hno : stOk A B = false) :
    Calls Tryz.prog 7 #[.slice a n c, .slice a' n' c'] w (StpI A B w) := by
  unfold StpI asL mrL leL
  rw [hno]
  simp only [Bool.false_eq_true, if_false]
  have HA := hide (readSet_calls a n c A w h)
  have HB := hide (fun (W : World) (hW : Below w.heap.size w W) => readSet_calls a' n' c' B W (h'.below hW))
  unfold stOk at hno
  clear h h'
  have HT := hide (fun W => (show Tri W w.heap.size (.slice none 0 0) (.slice none 0 0) (.slice none 0 0) [] [] [] from ⟨ownR_nil _ _ _, ownR_nil _ _ _, ownR_nil _ _ _, fun g hg => by simp [Value.ownBlock] at hg, fun g hg => by simp [Value.ownBlock] at hg, fun g hg => by simp [Value.ownBlock] at hg⟩))
  cases hA : setB A with
  | false =>
    rw [hA] at HA
    generalize setB B = sb at HB
    clear hno
    go_enter Tryz.func7, Tryz.ntmps7
    go_wp2_with fail
    refine (unhide HA).mono ?_
    rintro e w1 ⟨m1, rfl, hb1⟩
    have HB1 := hide hb1
    clear hb1
    go_wp2_with fail
    refine (unhide HB _ (unhide HB1)).mono ?_
    rintro e w2 ⟨m2, rfl, hb2⟩
    have HB2 := hide (belOnT (unhide HB1) hb2)
    clear hb2
    go_wp2_with fail
    exact bodyPost_ret (v := .tuple #[.slice none 0 0, .slice none 0 0, .slice none 0 0, .bool false]) (by simp [results, Tryz.results7, go_sem]) rfl ⟨_, _, _, rfl, unhide HT _, unhide HB2⟩
  | true =>
    rw [hA] at HA hno
    rw [Bool.true_and] at hno
    rw [hno] at HB
    go_enter Tryz.func7, Tryz.ntmps7
    go_wp2_with fail
    refine (unhide HA).mono ?_
    rintro e w1 ⟨m1, rfl, hb1⟩
    have HB1 := hide hb1
    clear hb1
    go_wp2_with fail
    refine (unhide HB _ (unhide HB1)).mono ?_
    rintro e w2 ⟨m2, rfl, hb2⟩
    have HB2 := hide (belOnT (unhide HB1) hb2)
    clear hb2
    go_wp2_with fail
    exact bodyPost_ret (v := .tuple #[.slice none 0 0, .slice none 0 0, .slice none 0 0, .bool false]) (by simp [results, Tryz.results7, go_sem]) rfl ⟨_, _, _, rfl, unhide HT _, unhide HB2⟩

set_option maxRecDepth 100000 in
set_option maxHeartbeats 8000000 in
theorem impl_StepsYes (a : Option Addr) (n c : Nat) (A : List ByteArray) (a' : Option Addr) (n' c' : Nat) (B : List ByteArray) (w : World) (h : TxtsAt w a n A) (h' : TxtsAt w a' n' B) (hA : setB A = true) (hB : setB B = true) (hK : KAt w) :
    Calls Tryz.prog 7 #[.slice a n c, .slice a' n' c'] w (StpI A B w) := by
  have h0 : 1 < w.heap.size := lt_of_cell (hK 0 (by omega))
  have hyes : stOk A B = true := by unfold stOk; rw [hA, hB]; rfl
  unfold StpI asL mrL leL
  rw [hyes]
  simp only [if_true]
  obtain ⟨sA1, sA2, sA3⟩ := setB_all hA
  obtain ⟨sB1, sB2, sB3⟩ := setB_all hB
  have k32 : ∀ (L : List ByteArray), ∀ x ∈ L.map kyL, x.length = 32 := fun L x hx => by obtain ⟨y, _, rfl⟩ := List.mem_map.1 hx; exact kyL_len y
  have HRA := hide (readY_calls a n c A w h hA)
  have HRB := hide (fun (W : World) (hW : Below w.heap.size w W) => readY_calls a' n' c' B W (h'.below hW) hB)
  have HKA := hide (fun (W : World) (b nn : Nat) (q : KSet W b nn (A.map kyL)) => keys_calls b nn _ (risK_map sA2 sA3) (k32 A) (by rw [List.length_map]; omega) W q)
  have HKB := hide (fun (W : World) (b nn : Nat) (q : KSet W b nn (B.map kyL)) => keys_calls b nn _ (risK_map sB2 sB3) (k32 B) (by rw [List.length_map]; omega) W q)
  have HTA := hide (fun (W : World) (hW : Below w.heap.size w W) (a : Option Addr) (m c : Nat) (q : RowAt keyE W a (A.map kyL)) (hm : (A.map kyL).length = m) => (show Calls Tryz.prog 23 #[.slice a m c, .agg #[.int .i64 0, .int .u8 0]] W fun e w' => ∃ b, e = .returned (.map (some b)) ∧ W.heap.size ≤ b ∧ TrAt w' b (cnt (2 - 0)) (grF (A.map kyL) 0 0 (fun _ _ => none)) ∧ Below W.heap.size W w' from treeOf_calls 0 0 (by omega) (by decide) a m c _ W q hm (by rw [List.length_map] at hm; omega) (k32 A) (hK.below hW h0)))
  have HTB := hide (fun (W : World) (hW : Below w.heap.size w W) (a : Option Addr) (m c : Nat) (q : RowAt keyE W a (B.map kyL)) (hm : (B.map kyL).length = m) => (show Calls Tryz.prog 23 #[.slice a m c, .agg #[.int .i64 0, .int .u8 0]] W fun e w' => ∃ b, e = .returned (.map (some b)) ∧ W.heap.size ≤ b ∧ TrAt w' b (cnt (2 - 0)) (grF (B.map kyL) 0 0 (fun _ _ => none)) ∧ Below W.heap.size W w' from treeOf_calls 0 0 (by omega) (by decide) a m c _ W q hm (by rw [List.length_map] at hm; omega) (k32 B) (hK.below hW h0)))
  have HAS := hide (fun (W : World) (ba bb na nb : Nat) (tA : TrAt W ba na (grF (A.map kyL) 0 0 (fun _ _ => none))) (tB : TrAt W bb nb (grF (B.map kyL) 0 0 (fun _ _ => none))) => (show Calls Tryz.prog 22 #[.map (some ba), .map (some bb)] W fun e w' => ∃ v1 v2, e = .returned (.tuple #[v1, v2]) ∧ OwnR brE w' W.heap.size v1 (askB (dfB A B)) ∧ OwnR brE w' W.heap.size v2 (unlB (dfB A B)) ∧ Below W.heap.size W w' from by
    have := askedOf_calls ba na bb nb (fun q => tN (A.map kyL) q.1 q.2) (fun q => tN (B.map kyL) q.1 q.2) _ _ (fun q hq => grF_root hq) (fun q hq => grF_root hq) (fun q => tN_len _ _ _) (fun q => tN_len _ _ _) W tA tB
    rw [askB_like (df_like hA hB), unlB_like (df_like hA hB)] at this
    exact this))
  have HWA := hide (fun (W : World) (bA nA bB nB : Nat) (qA : KSet W bA nA (A.map kyL)) (qB : KSet W bB nB (B.map kyL)) => without_calls bA nA bB nB A B hA hB W qA qB)
  have HWB := hide (fun (W : World) (bA nA bB nB : Nat) (qA : KSet W bA nA (A.map kyL)) (qB : KSet W bB nB (B.map kyL)) => without_calls bB nB bA nA B A hB hA W qB qA)
  obtain ⟨xA1, xA2, xA3⟩ := exB_set (B := B) hA
  obtain ⟨xB1, xB2, xB3⟩ := exB_set (B := A) hB
  have HXA := hide (fun (W : World) (b nn : Nat) (q : KLe W b nn ((exB A B).map kyL)) => keysL_calls b nn _ (risK_map xA2 xA3) (k32 _) (by rw [List.length_map]; omega) W q)
  have HXB := hide (fun (W : World) (b nn : Nat) (q : KLe W b nn ((exB B A).map kyL)) => keysL_calls b nn _ (risK_map xB2 xB3) (k32 _) (by rw [List.length_map]; omega) W q)
  obtain ⟨f1, f2, f3, f4⟩ := ask_facts (dfB A B)
  have HFG := hide f2
  have HUA := hide (fun (W : World) (a : Option Addr) (m c : Nat) (a' : Option Addr) (m' c' : Nat) (r : RowAt brE W a (unlB (dfB A B))) (hm : (unlB (dfB A B)).length = m) (r' : RowAt keyE W a' ((exB A B).map kyL)) (hm' : ((exB A B).map kyL).length = m') => (show Calls Tryz.prog 26 #[.slice a m c, .slice a' m' c'] W fun e w' => ∃ v, e = .returned v ∧ OwnR strE w' W.heap.size v ((unlB (dfB A B)).flatMap (lsB A B)) ∧ Below W.heap.size W w' from by
    rw [← flat_ls hA _ f4]
    exact underAny_calls a m c _ a' m' c' _ W r hm (by omega) f4 r' hm' (by rw [List.length_map] at hm'; omega) (k32 _)))
  have HUB := hide (fun (W : World) (a : Option Addr) (m c : Nat) (a' : Option Addr) (m' c' : Nat) (r : RowAt brE W a (unlB (dfB A B))) (hm : (unlB (dfB A B)).length = m) (r' : RowAt keyE W a' ((exB B A).map kyL)) (hm' : ((exB B A).map kyL).length = m') => (show Calls Tryz.prog 26 #[.slice a m c, .slice a' m' c'] W fun e w' => ∃ v, e = .returned v ∧ OwnR strE w' W.heap.size v ((unlB (dfB A B)).flatMap (lsB B A)) ∧ Below W.heap.size W w' from by
    rw [← flat_ls hB _ f4]
    exact underAny_calls a m c _ a' m' c' _ W r hm (by omega) f4 r' hm' (by rw [List.length_map] at hm'; omega) (k32 _)))
  obtain ⟨LA, hLA⟩ : ∃ LA, A.length = LA := ⟨_, rfl⟩
  obtain ⟨LB, hLB⟩ : ∃ LB, B.length = LB := ⟨_, rfl⟩
  obtain ⟨XA, hXA⟩ : ∃ XA, (exB A B).length = XA := ⟨_, rfl⟩
  obtain ⟨XB, hXB⟩ : ∃ XB, (exB B A).length = XB := ⟨_, rfl⟩
  have HLA := hide (show (A.map kyL).length = LA from by rw [List.length_map]; exact hLA)
  have HLB := hide (show (B.map kyL).length = LB from by rw [List.length_map]; exact hLB)
  have HNA := hide (show ((exB A B).map kyL).length = XA from by rw [List.length_map]; exact hXA)
  have HNB := hide (show ((exB B A).map kyL).length = XB from by rw [List.length_map]; exact hXB)
  generalize askB (dfB A B) = K at HAS HFG f1 ⊢
  generalize unlB (dfB A B) = U at HAS HUA HUB f3 ⊢
  generalize U.flatMap (lsB A B) = MR at HUA ⊢
  generalize U.flatMap (lsB B A) = LE at HUB ⊢
  obtain ⟨mk, hmk⟩ : ∃ mk, K.length = mk := ⟨_, rfl⟩
  obtain ⟨mu, hmu⟩ : ∃ mu, U.length = mu := ⟨_, rfl⟩
  rw [hmk] at f1
  rw [hmu] at f3
  have HMK := hide hmk
  have HMU := hide hmu
  clear h h' hA hB hK hyes sA1 sA2 sA3 sB1 sB2 sB3 k32 xA1 xA2 xA3 xB1 xB2 xB3 f2 f4 hLA hLB hXA hXB hmk hmu
  go_enter Tryz.func7, Tryz.ntmps7
  go_wp2_with fail
  refine (unhide HRA).mono ?_
  rintro e w1 ⟨bA, rfl, hbA, hkA, hb1⟩
  have HB1 := hide hb1
  have HSA1 := hide hkA
  clear hb1 hkA HRA
  go_wp2_with fail
  refine (unhide HRB _ (unhide HB1)).mono ?_
  rintro e w2 ⟨bB, rfl, hbB, hkB, hb2⟩
  have HB2 := hide (belOnT (unhide HB1) hb2)
  have HSA := hide (fun (W : World) (hW : Below w2.heap.size w2 W) => ((unhide HSA1).below hb2 (unhide HSA1).lt).below hW ((unhide HSA1).below hb2 (unhide HSA1).lt).lt)
  have HSB := hide (fun (W : World) (hW : Below w2.heap.size w2 W) => hkB.below hW hkB.lt)
  clear hb2 hkB HRB HSA1 HB1
  have HK3 := hide (unhide HKA w2 _ _ (unhide HSA w2 (Below.refl _ _)))
  go_wp2_with fail
  refine (unhide HK3).mono ?_
  rintro e w3 ⟨v3, rfl, o3, hb3⟩
  obtain ⟨a3, c3, hv3⟩ := o3.form
  rw [unhide HLA] at hv3
  subst hv3
  have HX3 := hide hb3
  have HT4 := hide (unhide HTA w3 (belOnT (unhide HB2) hb3) a3 LA c3 o3.at (unhide HLA))
  clear o3 hb3 HK3 HKA HTA
  go_wp2_with fail
  refine (unhide HT4).mono ?_
  rintro e w4 ⟨b4, rfl, -, ht4, hb4⟩
  have HX4 := hide (belOnT (unhide HX3) hb4)
  have HTR4 := hide ht4
  have HK5 := hide (unhide HKB w4 _ _ (unhide HSB w4 (unhide HX4)))
  clear ht4 hb4 HT4 HX3 HKB
  go_wp2_with fail
  refine (unhide HK5).mono ?_
  rintro e w5 ⟨v5, rfl, o5, hb5⟩
  obtain ⟨a5, c5, hv5⟩ := o5.form
  rw [unhide HLB] at hv5
  subst hv5
  have HX5 := hide (belOnT (unhide HX4) hb5)
  have HTR5 := hide ((unhide HTR4).below hb5 (unhide HTR4).lt)
  have HT6 := hide (unhide HTB w5 (belOnT (unhide HB2) (unhide HX5)) a5 LB c5 o5.at (unhide HLB))
  clear o5 hb5 HK5 HTR4 HX4 HTB
  go_wp2_with fail
  refine (unhide HT6).mono ?_
  rintro e w6 ⟨b6, rfl, -, ht6, hb6⟩
  have HX6 := hide (belOnT (unhide HX5) hb6)
  have HTR6 := hide ((unhide HTR5).below hb6 (unhide HTR5).lt)
  have HA7 := hide (unhide HAS w6 b4 b6 _ _ (unhide HTR6) ht6)
  clear ht6 hb6 HT6 HTR5 HX5 HTR6 HAS
  go_wp2_with fail
  refine (unhide HA7).mono ?_
  rintro e w7 ⟨v7, u7, rfl, o7, p7, hb7⟩
  obtain ⟨a7, c7, hv7⟩ := o7.form
  rw [unhide HMK] at hv7
  subst hv7
  obtain ⟨a8, c8, hv8⟩ := p7.form
  rw [unhide HMU] at hv8
  subst hv8
  have HX7 := hide (belOnT (unhide HX6) hb7)
  have HRK := hide o7.at
  have HRU := hide p7.at
  clear o7 p7 hb7 HA7 HX6
  go_wp2_with fail
  go_loopw [14, 16, 49] (fun s14 _ s49 wr => ∃ (i : Nat) (ta : Option Addr) (tc : Nat), s49 = .int .i64 i ∧ s14 = .slice ta i tc ∧ i ≤ mk ∧ Hid (OwnR strE wr w7.heap.size (.slice ta i tc) ((K.take i).map prT)) ∧ Hid (Below w7.heap.size w7 wr)) (fun _ _ s49 _ => mk - (intOf s49).toNat)
  case atStart => exact ⟨0, none, 0, rfl, rfl, by omega, hide (ownR_nil _ _ _), hide (Below.refl _ _)⟩
  case round =>
    obtain ⟨i, ta, tc, rfl, rfl, hi, HO, HB⟩ := hrel
    by_cases hlt : i < mk
    · have hil : i < K.length := by rw [unhide HMK]; exact hlt
      obtain ⟨g, e1, hgl, q0, q1⟩ := ((unhide HRK).below (unhide HB)).br i hil
      subst e1
      have hgd := unhide HFG K[i] (List.getElem_mem _)
      have HNX := hide (show (K.take (i + 1)).map prT = (K.take i).map prT ++ [prT K[i]] from by rw [List.take_succ_eq_append_getElem hil, List.map_append]; rfl)
      have HLN := hide (show ((K.take i).map prT).length = i from by rw [List.length_map, List.length_take]; omega)
      generalize K[i] = q at q0 q1 hgd HNX
      obtain ⟨n1, z⟩ := q
      simp only at q0 q1
      have HPR := hide (fun W => prefix_calls n1 z hgd W)
      have hps : (prT (n1, z)).size ≤ 2 := by rw [prT_size hgd]; exact hgd.1
      generalize prT (n1, z) = T at HPR HNX hps
      unfold brV at HPR
      have hinf := infB2 (.int .i64 (n1 : Int)) (.int .u8 (z : Int))
      have hall := allB2 (n1 : Int) (z : Int) .i64 .u8
      have hold : (#[.int .i64 0, .int .u8 0] : Array Value).size = (#[.int .i64 (n1 : Int), .int .u8 (z : Int)] : Array Value).size := rfl
      obtain ⟨W4, hW4⟩ : ∃ W4, wr.alloc (.cells #[.int .i64 0, .int .u8 0] 56) = W4 := ⟨_, rfl⟩
      have hnew4 : W4.heap[wr.heap.size]? = some (.cells #[.int .i64 0, .int .u8 0] 56 (0, 0)) := by rw [← hW4]; exact heap_alloc_new _ _
      have hs4 : wr.heap.size < W4.heap.size := by rw [← hW4]; simp
      have HB4 := hide (show Below wr.heap.size wr W4 from by rw [← hW4]; exact (Below.refl _ _).alloc (Nat.le_refl _) _)
      have i0 : (0 : Int) ≤ (i : Int) := by omega
      have i1 : (i : Int) < (mk : Int) := by omega
      clear hil hgd
      go_wp2_with (first
        | (refine wpList_store_any rfl 56 (.tmp 16) (.tmp 52) rfl wr.heap.size #[.int .i64 (n1 : Int), .int .u8 (z : Int)] rfl rfl 56 #[.int .i64 0, .int .u8 0] (by first | exact hnew4 | (rw [hW4]; exact hnew4)) hinf hold hall ?_; intro wx hrow5 hgr5 hsz5; (try rw [hW4] at hgr5 hsz5))
        | (refine wpList_load_row rfl 56 (.tmp 16) rfl wr.heap.size rfl 56 #[.int .i64 (n1 : Int), .int .u8 (z : Int)] (0, 0) _ hrow5 Tryz.underlying56 rfl hinf ?_))
      have HBx := hide ((unhide HB4).grown hgr5 (Nat.le_of_lt hs4) (fun k e => by cases e; exact Nat.le_refl _))
      have HOx := hide ((unhide HO).keep (unhide HBx))
      have HWx := hide (belOnT (unhide HB) (unhide HBx))
      clear hrow5 hgr5 hsz5 q0 q1 HO HB4 HBx hnew4
      refine (unhide HPR _).mono ?_
      rintro e wy ⟨rfl, hby⟩
      have HOy := hide ((unhide HOx).keep hby)
      have HWy := hide (belOnT (unhide HWx) hby)
      have hzy : w7.heap.size ≤ wy.heap.size := (unhide HWy).size
      have hlb : ((K.take i).map prT).length < 100000000 := by rw [unhide HLN]; omega
      clear hby HOx HWx HPR
      go_wp2_with (at_builtin; refine appR (e := strE) rfl _ _ rfl (unhide HOy) rfl T rfl _ rfl rfl hlb hzy ?_; intro v9 w9 hO9 hb9 hg9; obtain ⟨a9, c9, hv9⟩ := hO9.form; rw [List.length_append, unhide HLN, List.length_singleton] at hv9; subst hv9)
      have HO9 := hide hO9
      have HB9 := hide ((unhide HWy).trans hb9)
      clear hO9 hb9 hg9 HOy HWy
      go_wp2_with fail
      go_roundw
      case rel => exact ⟨i + 1, a9, c9, by go_num, rfl, by omega, hide (by rw [unhide HNX]; exact unhide HO9), HB9⟩
      case measure => simp [intOf]; omega
    · obtain rfl : i = mk := by omega
      have hO := unhide HO
      rw [List.take_of_length_le (by rw [unhide HMK]; exact Nat.le_refl _)] at hO
      have HOP := hide hO
      have HX8 := hide (belOnT (unhide HX7) (unhide HB))
      have HRU8 := hide ((unhide HRU).below (unhide HB))
      have HW10 := hide (unhide HWA wr _ _ _ _ (unhide HSA wr (unhide HX8)) (unhide HSB wr (unhide HX8)))
      have hz8 : w.heap.size ≤ w7.heap.size := (belOnT (unhide HB2) (unhide HX7)).size
      clear hO HO HWA HX7 HRK HRU HFG HB
      go_wp2_with fail
      refine (unhide HW10).mono ?_
      rintro e w10 ⟨b10, rfl, hk10, hb10⟩
      have HX10 := hide (belOnT (unhide HX8) hb10)
      have HRU10 := hide ((unhide HRU8).below hb10)
      have HOP10 := hide ((unhide HOP).keep hb10)
      have HK11 := hide (unhide HXA w10 _ _ hk10)
      clear hk10 hb10 HW10 HX8 HRU8 HOP HXA
      go_wp2_with fail
      refine (unhide HK11).mono ?_
      rintro e w11 ⟨v11, rfl, o11, hb11⟩
      obtain ⟨a11, c11, hv11⟩ := o11.form
      rw [unhide HNA] at hv11
      subst hv11
      have HX11 := hide (belOnT (unhide HX10) hb11)
      have HRU11 := hide ((unhide HRU10).below hb11)
      have HOP11 := hide ((unhide HOP10).keep hb11)
      have HU12 := hide (unhide HUA w11 a8 mu c8 a11 XA c11 (unhide HRU11) (unhide HMU) o11.at (unhide HNA))
      clear o11 hb11 HK11 HX10 HRU10 HOP10 HUA
      go_wp2_with fail
      refine (unhide HU12).mono ?_
      rintro e w12 ⟨v12, rfl, o12, hb12⟩
      have hap12 := ApT.new (unhide HOP11) o12 (Nat.le_refl _)
      obtain ⟨a12, c12, hv12⟩ := o12.form
      generalize MR.length = m12 at hv12
      subst hv12
      have HX12 := hide (belOnT (unhide HX11) hb12)
      have HRU12 := hide ((unhide HRU11).below hb12)
      have HOP12 := hide ((unhide HOP11).keep hb12)
      have HMR12 := hide o12
      have HAP12 := hide hap12
      have hz11 : w.heap.size ≤ w11.heap.size := (belOnT (unhide HB2) (unhide HX11)).size
      have HW13 := hide (unhide HWB w12 _ _ _ _ (unhide HSA w12 (unhide HX12)) (unhide HSB w12 (unhide HX12)))
      clear o12 hb12 hap12 HU12 HX11 HRU11 HOP11 HWB
      go_wp2_with fail
      refine (unhide HW13).mono ?_
      rintro e w13 ⟨b13, rfl, hk13, hb13⟩
      have HX13 := hide (belOnT (unhide HX12) hb13)
      have HRU13 := hide ((unhide HRU12).below hb13)
      have HOP13 := hide ((unhide HOP12).keep hb13)
      have HMR13 := hide ((unhide HMR12).keep hb13)
      have HK14 := hide (unhide HXB w13 _ _ hk13)
      clear hk13 hb13 HW13 HX12 HRU12 HOP12 HMR12 HXB
      go_wp2_with fail
      refine (unhide HK14).mono ?_
      rintro e w14 ⟨v14, rfl, o14, hb14⟩
      obtain ⟨a14, c14, hv14⟩ := o14.form
      rw [unhide HNB] at hv14
      subst hv14
      have HX14 := hide (belOnT (unhide HX13) hb14)
      have HRU14 := hide ((unhide HRU13).below hb14)
      have HOP14 := hide ((unhide HOP13).keep hb14)
      have HMR14 := hide ((unhide HMR13).keep hb14)
      have HU15 := hide (unhide HUB w14 a8 mu c8 a14 XB c14 (unhide HRU14) (unhide HMU) o14.at (unhide HNB))
      clear o14 hb14 HK14 HX13 HRU13 HOP13 HMR13 HUB
      go_wp2_with fail
      refine (unhide HU15).mono ?_
      rintro e w15 ⟨v15, rfl, o15, hb15⟩
      have h13 := ApT.new (unhide HOP14) o15 (Nat.le_refl _)
      have h23 := ApT.new (unhide HMR14) o15 (Nat.le_refl _)
      have hz14 : w.heap.size ≤ w14.heap.size := (belOnT (unhide HB2) (unhide HX14)).size
      have hTri : Tri w15 w.heap.size (.slice ta i tc) (.slice a12 m12 c12) v15 (K.map prT) MR LE := ⟨OwnR.le ((unhide HOP14).keep hb15) hz8, OwnR.le ((unhide HMR14).keep hb15) hz11, OwnR.le o15 hz14, unhide HAP12, h13, h23⟩
      obtain ⟨a15, c15, hv15⟩ := o15.form
      generalize LE.length = m15 at hv15
      subst hv15
      have HTR := hide hTri
      have HB15 := hide (belOnT (belOnT (unhide HB2) (unhide HX14)) hb15)
      clear o15 hb15 h13 h23 hTri HU15 HX14 HRU14 HOP14 HMR14
      go_wp2_with fail
      exact bodyPost_ret (v := .tuple #[.slice ta i tc, .slice a12 m12 c12, .slice a15 m15 c15, .bool true]) (by simp [results, Tryz.results7, go_sem]) rfl ⟨_, _, _, rfl, unhide HTR, unhide HB15⟩
end Go.Proofs.YtldgkpnlplfopaaGreatDoor


/- Steps by the specification. -/
namespace Go.Proofs.YtldgkpnlplfopaaGreatDoor
open Go.RowKit Go.Maps Plain
set_option linter.unusedVariables false

theorem Plain.undTx {A : List ByteArray} (h : setB A = true) (p : ByteArray) {W : World} {a1 : Option Addr} {n1 : Nat} (r : RowAt strE W a1 (A.filter (preB p))) (hl : (A.filter (preB p)).length = n1) : TxtsAt W a1 n1 (A.filter (preB p)) := by
  obtain ⟨s1, s2, s3⟩ := setB_all h
  have := List.length_filter_le (preB p) A
  exact ⟨r, hl, by omega, fun s hm => by have := (digB_form (s2 s (List.mem_filter.1 hm).1)).1; omega⟩
theorem Plain.und71 {A : List ByteArray} (h : setB A = true) (p : ByteArray) : ∀ s ∈ A.filter (preB p), s.size = 71 := fun s hm => (digB_form ((setB_all h).2.1 s (List.mem_filter.1 hm).1)).1
theorem Plain.und200 {A : List ByteArray} (h : setB A = true) (p : ByteArray) : (A.filter (preB p)).length ≤ 200 := Nat.le_trans (List.length_filter_le _ _) (setB_all h).1

/-- What the specification's Steps answers. -/
def Plain.StpQ (A B : List ByteArray) (w : World) (e : Ending) (w' : World) : Prop := ∃ v1 v2 v3, e = .returned (.tuple #[v1, v2, v3, .bool (stOk A B)]) ∧ OwnR strE w' w.heap.size v1 (asL A B) ∧ OwnR strE w' w.heap.size v2 (mrL A B) ∧ OwnR strE w' w.heap.size v3 (leL A B) ∧ Below w.heap.size w w'

set_option maxRecDepth 10000 in
set_option maxHeartbeats 2000000 in
theorem spec_StepsNo (a : Option Addr) (n c : Nat) (A : List ByteArray) (a' : Option Addr) (n' c' : Nat) (B : List ByteArray) (w : World) (h : TxtsAt w a n A) (h' : TxtsAt w a' n' B) (hno : stOk A B = false) :
    Calls Tryz.prog 6 #[.slice a n c, .slice a' n' c'] w (StpQ A B w) := by
  unfold StpQ asL mrL leL
  rw [hno]
  simp only [Bool.false_eq_true, if_false]
  obtain ⟨W3, hW3⟩ : ∃ W3, ((w.alloc (.cells #[] 9)).alloc (.cells #[] 9)).alloc (.cells #[] 9) = W3 := ⟨_, rfl⟩
  have hT := tri_made w
  have hb3 : Below w.heap.size w W3 := by rw [← hW3]; exact (((Below.refl _ _).alloc (Nat.le_refl _) _).alloc (by simp) _).alloc (by simp; omega) _
  rw [hW3] at hT
  have HT := hide hT
  have HW := hide hW3
  have HB3 := hide hb3
  have HSA := hide (l7Set_calls a n c A W3 (h.below hb3))
  have HSB := hide (fun (W : World) (hW : Below w.heap.size w W) => l7Set_calls a' n' c' B W (h'.below hW))
  unfold stOk at hno
  clear h h' hT hW3 hb3
  cases hA : setB A with
  | false =>
    rw [hA] at HSA
    clear hno
    go_enter Tryz.func6, Tryz.ntmps6
    go_wp2_with fail
    rw [unhide HW]
    refine (unhide HSA).mono ?_
    rintro e w1 ⟨rfl, hb1⟩
    have HT1 := hide ((unhide HT).keep hb1)
    have HB1 := hide ((unhide HB3).trans (hb1.mono (unhide HB3).size))
    clear hb1
    go_wp2_with fail
    exact bodyPost_ret (v := .tuple #[_, _, _, .bool false]) (by simp [results, Tryz.results6, go_sem]) rfl ⟨_, _, _, rfl, (unhide HT1).o1, (unhide HT1).o2, (unhide HT1).o3, unhide HB1⟩
  | true =>
    rw [hA] at HSA hno
    rw [Bool.true_and] at hno
    rw [hno] at HSB
    go_enter Tryz.func6, Tryz.ntmps6
    go_wp2_with fail
    rw [unhide HW]
    refine (unhide HSA).mono ?_
    rintro e w1 ⟨rfl, hb1⟩
    have HT1 := hide ((unhide HT).keep hb1)
    have HB1 := hide ((unhide HB3).trans (hb1.mono (unhide HB3).size))
    clear hb1
    go_wp2_with fail
    refine (unhide HSB _ (unhide HB1)).mono ?_
    rintro e w2 ⟨rfl, hb2⟩
    have HT2 := hide ((unhide HT1).keep hb2)
    have HB2 := hide (belOnT (unhide HB1) hb2)
    clear hb2
    go_wp2_with fail
    exact bodyPost_ret (v := .tuple #[_, _, _, .bool false]) (by simp [results, Tryz.results6, go_sem]) rfl ⟨_, _, _, rfl, (unhide HT2).o1, (unhide HT2).o2, (unhide HT2).o3, unhide HB2⟩

set_option maxRecDepth 10000 in
set_option maxHeartbeats 8000000 in
theorem spec_StepsYes (a : Option Addr) (n c : Nat) (A : List ByteArray) (a' : Option Addr) (n' c' : Nat) (B : List ByteArray) (w : World) (h : TxtsAt w a n A) (h' : TxtsAt w a' n' B) (hA : setB A = true) (hB : setB B = true) :
    Calls Tryz.prog 6 #[.slice a n c, .slice a' n' c'] w (StpQ A B w) := by
  have hyes : stOk A B = true := by unfold stOk; rw [hA, hB]; rfl
  unfold StpQ asL mrL leL
  rw [hyes]
  simp only [if_true]
  obtain ⟨W3, hW3⟩ : ∃ W3, ((w.alloc (.cells #[] 9)).alloc (.cells #[] 9)).alloc (.cells #[] 9) = W3 := ⟨_, rfl⟩
  have hT := tri_made w
  have hb3 : Below w.heap.size w W3 := by rw [← hW3]; exact (((Below.refl _ _).alloc (Nat.le_refl _) _).alloc (by simp) _).alloc (by simp; omega) _
  rw [hW3] at hT
  have HT := hide hT
  have HW := hide hW3
  have HB3 := hide hb3
  have HSA := hide (l7Set_calls a n c A W3 (h.below hb3))
  rw [hA] at HSA
  have HSB := hide (fun (W : World) (hW : Below w.heap.size w W) => l7Set_calls a' n' c' B W (h'.below hW))
  rw [hB] at HSB
  have a71 : ∀ s ∈ A, s.size = 71 := fun s hm => (digB_form ((setB_all hA).2.1 s hm)).1
  have b71 : ∀ s ∈ B, s.size = 71 := fun s hm => (digB_form ((setB_all hB).2.1 s hm)).1
  have HUA := hide (fun (W : World) (hW : Below w.heap.size w W) (p : ByteArray) (hp : p.size ≤ 2) => l7Under_calls a n c A p W (h.below hW) a71 hp)
  have HUB := hide (fun (W : World) (hW : Below w.heap.size w W) (p : ByteArray) (hp : p.size ≤ 2) => l7Under_calls a' n' c' B p W (h'.below hW) b71 hp)
  have HNA := hide (fun (W : World) (q : Nat × Nat) (hq : gdB q) (a1 : Option Addr) (n1 c1 : Nat) (r : RowAt strE W a1 (A.filter (preB (prT q)))) (hl : (A.filter (preB (prT q))).length = n1) => (show Calls Tryz.prog 18 #[.slice a1 n1 c1, .string (prT q)] W fun e w' => e = .returned (.string (ndB A q)) ∧ Below W.heap.size W w' from by
    rw [← nd_same]
    exact l7Node_calls (2 - q.1) (prT q) (by rw [prT_size hq]; have := hq.1; omega) a1 n1 c1 _ W (undTx hA _ r hl) (und71 hA _) (by have := und200 hA (prT q); omega)))
  have HNB := hide (fun (W : World) (q : Nat × Nat) (hq : gdB q) (a1 : Option Addr) (n1 c1 : Nat) (r : RowAt strE W a1 (B.filter (preB (prT q)))) (hl : (B.filter (preB (prT q))).length = n1) => (show Calls Tryz.prog 18 #[.slice a1 n1 c1, .string (prT q)] W fun e w' => e = .returned (.string (ndB B q)) ∧ Below W.heap.size W w' from by
    rw [← nd_same]
    exact l7Node_calls (2 - q.1) (prT q) (by rw [prT_size hq]; have := hq.1; omega) a1 n1 c1 _ W (undTx hB _ r hl) (und71 hB _) (by have := und200 hB (prT q); omega)))
  have HFA := hide (fun p => und200 hA p)
  have HFB := hide (fun p => und200 hB p)
  have HLA := hide (setB_all hA).1
  have HLB := hide (setB_all hB).1
  clear h h' hT hW3 hb3 a71 b71 hyes
  go_enter Tryz.func6, Tryz.ntmps6
  go_wp2_with fail
  rw [unhide HW]
  refine (unhide HSA).mono ?_
  rintro e w1 ⟨rfl, hb1⟩
  have HT1 := hide ((unhide HT).keep hb1)
  have HB1 := hide ((unhide HB3).trans (hb1.mono (unhide HB3).size))
  clear hb1 HT HB3 HSA HW
  go_wp2_with fail
  refine (unhide HSB _ (unhide HB1)).mono ?_
  rintro e w2 ⟨rfl, hb2⟩
  have HT2 := hide ((unhide HT1).keep hb2)
  have HB2 := hide (belOnT (unhide HB1) hb2)
  have hz2 := (unhide HB2).size
  have HA2 := hide (show Below w2.heap.size w2 (w2.alloc (.cells #[.string ByteArray.empty] 9)) from (Below.refl _ _).alloc (Nat.le_refl _) _)
  clear hb2 HT1 HB1 HSB
  go_wp2_with (at_builtin; refine appRAt (e := strE) rfl _ _ rfl (unhide HT2).o1 rfl ByteArray.empty rfl _ rfl rfl (by decide) hz2 ?_; intro v4 w4 hO4 hb4 hg4 hw4)
  obtain ⟨a4, c4, hv4⟩ := hO4.form
  have hT4 := ((unhide HT2).keep (unhide HA2)).app hO4 hg4 (by simpa using hw4)
  rw [show ([] ++ [ByteArray.empty] : List ByteArray).length = 1 from rfl] at hv4
  subst hv4
  have HT4 := hide hT4
  have HB4 := hide ((unhide HB2).trans hb4)
  clear hO4 hb4 hg4 hw4 hT4 HT2 HB2 HA2 hz2
  go_wp2_with fail
  go_loopw [8, 9, 10, 11, 12, 13, 14] (fun s8 s9 s10 s11 _ _ _ wr => ∃ (i m : Nat) (b1 b2 b3 : Option Addr) (d1 d2 d3 m2 m3 : Nat), s11 = .int .i64 i ∧ s8 = .slice b1 m d1 ∧ s9 = .slice b2 m2 d2 ∧ s10 = .slice b3 m3 d3 ∧ i ≤ m ∧ m ≤ 273 ∧ Hid ((stB (dfB A B) i).1.length = m) ∧ Hid (Tri wr w.heap.size (.slice b1 m d1) (.slice b2 m2 d2) (.slice b3 m3 d3) ((stB (dfB A B) i).1.map prT) ((stB (dfB A B) i).2.flatMap (lsB A B)) ((stB (dfB A B) i).2.flatMap (lsB B A))) ∧ Hid (Below w.heap.size w wr)) (fun _ _ _ s11 _ _ _ _ => 273 - (intOf s11).toNat)
  case atStart => exact ⟨0, 1, _, _, _, _, _, _, _, _, rfl, rfl, rfl, rfl, by omega, by omega, hide rfl, HT4, HB4⟩
  case round =>
    clear HT4 HB4
    obtain ⟨i, m, b1, b2, b3, d1, d2, d3, m2, m3, rfl, rfl, rfl, rfl, him, hm, HM, HT, HBw⟩ := hrel
    by_cases hlt : i < m
    · have hil : i < (stB (dfB A B) i).1.length := by rw [unhide HM]; exact hlt
      have hinv := stB_inv (dfB A B) i (by omega)
      obtain ⟨q, hq⟩ : ∃ q, (stB (dfB A B) i).1[i] = q := ⟨_, rfl⟩
      have hqi : (stB (dfB A B) i).1[i]? = some q := by rw [List.getElem?_eq_getElem hil, hq]
      have hgd : gdB q := hinv.good q (by rw [← hq]; exact List.getElem_mem _)
      obtain ⟨g, e1, hgl, hc, -⟩ := (unhide HT).o1.at.str i (by rw [List.length_map]; exact hil)
      rw [List.getElem_map, hq] at hc
      subst e1
      have hps := prT_size hgd
      have hq2 := hgd.1
      have HSM := hide (fun hd => stB_same (dfB A B) i q hqi hd)
      have HLF := hide (fun hd h2 => stB_leaf (dfB A B) i q hqi hd h2)
      have HMO := hide (fun hd h2 => stB_more (dfB A B) i q hqi hd h2)
      have HIN := hide (fun (hx : i + 1 ≤ (stB (dfB A B) (i + 1)).1.length) => (stB_inv (dfB A B) (i + 1) hx).len hx)
      have hfw := hinv.few
      have g2 : ((stB (dfB A B) i).2.flatMap (lsB A B)).length = m2 := by
        obtain ⟨x2, y2, f2⟩ := (unhide HT).o2.form
        injection f2 with f2a f2b f2c
        exact f2b.symm
      have g3 : ((stB (dfB A B) i).2.flatMap (lsB B A)).length = m3 := by
        obtain ⟨x3, y3, f3⟩ := (unhide HT).o3.form
        injection f3 with f3a f3b f3c
        exact f3b.symm
      have hml : m2 ≤ 200 * 273 ∧ m3 ≤ 200 * 273 := by
        have k2 := flat_le A B (unhide HLA) (stB (dfB A B) i).2
        have k3 := flat_le B A (unhide HLB) (stB (dfB A B) i).2
        rw [g2] at k2
        rw [g3] at k3
        omega
      have HL2 := hide g2
      have HL3 := hide g3
      clear g2 g3
      have HP1 := hide (unhide HUA wr (unhide HBw) (prT q) (by omega))
      have HP2 := hide (fun (W : World) (hW : Below wr.heap.size wr W) => unhide HUB W (belOnT (unhide HBw) hW) (prT q) (by omega))
      have HQA := hide (fun (W : World) (a1 : Option Addr) (n1 c1 : Nat) (r : RowAt strE W a1 (A.filter (preB (prT q)))) (hl : (A.filter (preB (prT q))).length = n1) => unhide HNA W q hgd a1 n1 c1 r hl)
      have HQB := hide (fun (W : World) (a1 : Option Addr) (n1 c1 : Nat) (r : RowAt strE W a1 (B.filter (preB (prT q)))) (hl : (B.filter (preB (prT q))).length = n1) => unhide HNB W q hgd a1 n1 c1 r hl)
      have HBE := hide (fun W => l7Below_calls (prT q) W (by omega))
      have HBX := hide (fun h1 => blw_sx hgd h1)
      have hfa := unhide HFA (prT q)
      have hfb := unhide HFB (prT q)
      have HLS := hide (show lsB A B q = (A.filter (preB (prT q))).filter fun x => !anyB (B.filter (preB (prT q))) x from rfl)
      have HLT := hide (show lsB B A q = (B.filter (preB (prT q))).filter fun x => !anyB (A.filter (preB (prT q))) x from rfl)
      have hdf : dfB A B q = decide (ndB A q ≠ ndB B q) := rfl
      have hl200 := lsB_len A B q (unhide HLA)
      have hr200 := lsB_len B A q (unhide HLB)
      generalize A.filter (preB (prT q)) = FA at HP1 HQA hfa HLS HLT
      generalize B.filter (preB (prT q)) = FB at HP2 HQB hfb HLS HLT
      generalize prT q = p at hc hps HP1 HP2 HQA HQB HBE HBX
      obtain ⟨ma, hma⟩ : ∃ ma, FA.length = ma := ⟨_, rfl⟩
      obtain ⟨mb, hmb⟩ : ∃ mb, FB.length = mb := ⟨_, rfl⟩
      rw [hma] at hfa
      rw [hmb] at hfb
      have HMA := hide hma
      have HMB := hide hmb
      have i0 : (0 : Int) ≤ (i : Int) := by omega
      have i1 : (i : Int) < (m : Int) := by omega
      clear hq hqi hil hinv hma hmb HUA HUB HNA HNB
      go_wp2_with fail
      refine (unhide HP1).mono ?_
      rintro e w1 ⟨v1, rfl, o1, hb1⟩
      obtain ⟨a1, c1, hv1⟩ := o1.form
      rw [unhide HMA] at hv1
      subst hv1
      have HR1 := hide o1
      have HX1 := hide hb1
      have HAP1 := hide (ApT.new (unhide HT).o2 o1 (Nat.le_refl _))
      clear o1 hb1 HP1 hc
      go_wp2_with fail
      refine (unhide HP2 _ (unhide HX1)).mono ?_
      rintro e w2 ⟨v2, rfl, o2, hb2⟩
      obtain ⟨a2, c2, hv2⟩ := o2.form
      rw [unhide HMB] at hv2
      subst hv2
      have HR2 := hide o2
      have HAP2 := hide (ApT.new (unhide HT).o2 o2 (unhide HX1).size)
      have HR12 := hide ((unhide HR1).keep hb2)
      have HX2 := hide (belOnT (unhide HX1) hb2)
      have HN1 := hide (unhide HQA w2 a1 ma c1 (unhide HR12).at (unhide HMA))
      clear o2 hb2 HP2 HR1 HX1 HQA
      go_wp2_with fail
      refine (unhide HN1).mono ?_
      rintro e w3 ⟨rfl, hb3⟩
      have HR13 := hide ((unhide HR12).keep hb3)
      have HR23 := hide ((unhide HR2).keep hb3)
      have HX3 := hide (belOnT (unhide HX2) hb3)
      have HN2 := hide (unhide HQB w3 a2 mb c2 (unhide HR23).at (unhide HMB))
      clear hb3 HR12 HR2 HX2 HQB HN1
      go_wp2_with fail
      refine (unhide HN2).mono ?_
      rintro e w4 ⟨rfl, hb4⟩
      have HR14 := hide ((unhide HR13).keep hb4)
      have HR24 := hide ((unhide HR23).keep hb4)
      have HX4 := hide (belOnT (unhide HX3) hb4)
      have HT4 := hide ((unhide HT).keep (unhide HX4))
      have HB4 := hide (belOnT (unhide HBw) (unhide HX4))
      have hz4 := (unhide HB4).size
      clear hb4 HR13 HR23 HX3 HN2 HT HX4
      by_cases heq : ndB A q = ndB B q
      · have hst := unhide HSM (by rw [hdf]; simp [heq])
        rw [heq]
        generalize ndB B q = Z
        have HST := hide hst
        have HML := hide (show (stB (dfB A B) (i + 1)).1.length = m from by rw [hst]; exact unhide HM)
        clear hst hdf heq HSM HLF HMO HIN
        go_wp2_with fail
        go_roundw
        case rel => exact ⟨i + 1, m, _, _, _, _, _, _, _, _, by go_num, rfl, rfl, rfl, by omega, by omega, HML, hide (by rw [unhide HST]; exact unhide HT4), HB4⟩
        case measure => simp [intOf]; omega
      · have hdt : dfB A B q = true := by rw [hdf]; simp [heq]
        have hne : ((ndB A q).toList == (ndB B q).toList) = false := by
          rw [beq_eq_false_iff_ne, ByteArray.toList_eq, ByteArray.toList_eq]
          intro e
          exact heq (ByteArray.ext (Array.toList_inj.1 e))
        generalize ndB A q = Z1 at hne ⊢
        generalize ndB B q = Z2 at hne ⊢
        by_cases h2 : q.1 = 2
        · have hst := unhide HLF hdt h2
          have HST := hide hst
          have HML := hide (show (stB (dfB A B) (i + 1)).1.length = m from by rw [hst]; exact unhide HM)
          have hp2 : ¬ ((p.size : Int) < 2) := by omega
          have HG1 := hide (l7Less_calls a1 ma c1 FA a2 mb c2 FB w4 (unhide HR14).at (unhide HMA) (by omega) (unhide HR24).at.strs (unhide HMB) (by omega))
          rw [← unhide HLS] at HG1
          clear hst hdf heq HSM HLF HMO HIN
          go_wp2_with fail
          refine (unhide HG1).mono ?_
          rintro e w5 ⟨v5, rfl, o5, hb5⟩
          obtain ⟨a5, c5, hv5⟩ := o5.form
          obtain ⟨m5, hm5⟩ : ∃ m5, (lsB A B q).length = m5 := ⟨_, rfl⟩
          rw [hm5] at hv5 hl200
          subst hv5
          have HT5 := hide ((unhide HT4).keep hb5)
          have HB5 := hide (belOnT (unhide HB4) hb5)
          have HR15 := hide ((unhide HR14).keep hb5)
          have HR25 := hide ((unhide HR24).keep hb5)
          have HO5 := hide o5
          have hz5 := (unhide HB5).size
          have HM5 := hide hm5
          have hlb : ((stB (dfB A B) i).2.flatMap (lsB A B)).length + m5 < 100000000 := by rw [unhide HL2]; omega
          clear o5 hb5 HT4 HB4 HR14 HR24 HG1 hm5
          go_wp2_with (at_builtin; refine appAt (e := strE) rfl _ _ rfl (unhide HT5).o2 rfl a5 m5 c5 rfl (unhide HM5) (unhide HO5).at (unhide HO5).adG hlb hz5 ?_; intro v6 w6 hO6 hb6 hg6 hw6)
          obtain ⟨a6, c6, hv6⟩ := hO6.form
          have hT6 := ((unhide HT5).rot.app hO6 hg6 hw6).rot.rot
          rw [List.length_append, unhide HL2, unhide HM5] at hv6
          subst hv6
          have HT6 := hide hT6
          have HB6 := hide ((unhide HB5).trans hb6)
          have hz6 := (unhide HB6).size
          have HR16 := hide (keptT (unhide HR15) (unhide HAP1) hg6)
          have HR26 := hide (keptT (unhide HR25) (unhide HAP2) hg6)
          have HG2 := hide (l7Less_calls a2 mb c2 FB a1 ma c1 FA w6 (unhide HR26).at (unhide HMB) (by omega) (unhide HR16).at.strs (unhide HMA) (by omega))
          rw [← unhide HLT] at HG2
          clear hO6 hb6 hg6 hw6 hT6 HT5 HB5 HR15 HR25 HR16 HR26 HO5
          go_wp2_with fail
          refine (unhide HG2).mono ?_
          rintro e w7 ⟨v7, rfl, o7, hb7⟩
          obtain ⟨a7, c7, hv7⟩ := o7.form
          obtain ⟨m7, hm7⟩ : ∃ m7, (lsB B A q).length = m7 := ⟨_, rfl⟩
          rw [hm7] at hv7 hr200
          subst hv7
          have HT7 := hide ((unhide HT6).keep hb7)
          have HB7 := hide (belOnT (unhide HB6) hb7)
          have HO7 := hide o7
          have hz7 := (unhide HB7).size
          have HM7 := hide hm7
          have hlc : ((stB (dfB A B) i).2.flatMap (lsB B A)).length + m7 < 100000000 := by rw [unhide HL3]; omega
          clear o7 hb7 HT6 HB6 HG2 hm7
          go_wp2_with (at_builtin; refine appAt (e := strE) rfl _ _ rfl (unhide HT7).o3 rfl a7 m7 c7 rfl (unhide HM7) (unhide HO7).at (unhide HO7).adG hlc hz7 ?_; intro v8 w8 hO8 hb8 hg8 hw8)
          obtain ⟨a8, c8, hv8⟩ := hO8.form
          have hT8 := ((unhide HT7).rot.rot.app hO8 hg8 hw8).rot
          rw [List.length_append, unhide HL3, unhide HM7] at hv8
          subst hv8
          have HT8 := hide hT8
          have HB8 := hide ((unhide HB7).trans hb8)
          clear hO8 hb8 hg8 hw8 hT8 HT7 HB7 HO7
          go_wp2_with fail
          go_roundw
          case rel => exact ⟨i + 1, m, _, _, _, _, _, _, _, _, by go_num, rfl, rfl, rfl, by omega, by omega, HML, hide (by rw [unhide HST]; simp only [List.flatMap_append, List.flatMap_cons, List.flatMap_nil, List.append_nil]; exact unhide HT8), HB8⟩
          case measure => simp [intOf]; omega
        · have hlt2 : q.1 < 2 := by omega
          have hst := unhide HMO hdt h2
          have HST := hide hst
          have hml2 : (stB (dfB A B) (i + 1)).1.length = m + 16 := by rw [hst]; simp only [List.length_append, sxB_len]; rw [unhide HM]
          have hm16 : m + 16 ≤ 273 := by
            have := unhide HIN (by rw [hml2]; omega)
            omega
          have HML := hide hml2
          have hp2 : ((p.size : Int) < 2) := by omega
          have hbx := unhide HBX hlt2
          rw [hbx] at HBE
          have HLA1 := hide (show ((stB (dfB A B) i).1.map prT).length = m from by rw [List.length_map]; exact unhide HM)
          have HL16 := hide (show ((sxB q).map prT).length = 16 from by rw [List.length_map, sxB_len])
          clear hst hdf heq HSM HLF HMO HIN hbx HBX hml2
          go_wp2_with fail
          refine (unhide HBE _).mono ?_
          rintro e w5 ⟨v5, rfl, o5, hb5⟩
          obtain ⟨a5, c5, hv5⟩ := o5.form
          rw [unhide HL16] at hv5
          subst hv5
          have HT5 := hide ((unhide HT4).keep hb5)
          have HB5 := hide (belOnT (unhide HB4) hb5)
          have HO5 := hide o5
          have hz5 := (unhide HB5).size
          have hlb : ((stB (dfB A B) i).1.map prT).length + 16 < 100000000 := by rw [unhide HLA1]; omega
          clear o5 hb5 HT4 HB4 HR14 HR24 HBE
          go_wp2_with (at_builtin; refine appAt (e := strE) rfl _ _ rfl (unhide HT5).o1 rfl a5 16 c5 rfl (unhide HL16) (unhide HO5).at (unhide HO5).adG hlb hz5 ?_; intro v6 w6 hO6 hb6 hg6 hw6)
          obtain ⟨a6, c6, hv6⟩ := hO6.form
          have hT6 := (unhide HT5).app hO6 hg6 hw6
          rw [List.length_append, unhide HLA1, unhide HL16] at hv6
          subst hv6
          have HT6 := hide hT6
          have HB6 := hide ((unhide HB5).trans hb6)
          clear hO6 hb6 hg6 hw6 hT6 HT5 HB5 HO5
          go_wp2_with fail
          go_roundw
          case rel => exact ⟨i + 1, m + 16, _, _, _, _, _, _, _, _, by go_num, rfl, rfl, rfl, by omega, by omega, HML, hide (by rw [unhide HST]; simp only [List.map_append]; exact unhide HT6), HB6⟩
          case measure => simp [intOf]; omega
    · obtain rfl : i = m := by omega
      have hfin := stB_fin (dfB A B) i (unhide HM)
      have hT := unhide HT
      rw [hfin] at hT
      have HTF := hide hT
      clear hT hfin HT
      go_wp2_with fail
      exact bodyPost_ret (v := .tuple #[_, _, _, .bool true]) (by simp [results, Tryz.results6, go_sem]) rfl ⟨_, _, _, rfl, (unhide HTF).o1, (unhide HTF).o2, (unhide HTF).o3, unhide HBw⟩
end Go.Proofs.YtldgkpnlplfopaaGreatDoor

