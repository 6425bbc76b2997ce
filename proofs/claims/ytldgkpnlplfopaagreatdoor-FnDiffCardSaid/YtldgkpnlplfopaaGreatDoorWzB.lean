/- Texts of one kind, put together. -/
import Derived.Test.YtldgkpnlplfopaaGreatDoorTzA

/- NodeOf by the specification. -/
namespace Go.Proofs.YtldgkpnlplfopaaGreatDoor
open Go.RowKit Go.Maps Plain
set_option linter.unusedVariables false

namespace Plain
/-- What NodeOf answers. -/
def ndT (ls : List ByteArray) (p : ByteArray) : ByteArray := if setB ls && prB p then nodeU (2 - p.size) ls p else ByteArray.empty
theorem ndT_size (ls : List ByteArray) (p : ByteArray) : (ndT ls p).size ≤ 71 := by
  unfold ndT
  split
  · rw [nodeU_size]; omega
  · decide
end Plain

set_option maxRecDepth 10000 in
set_option maxHeartbeats 2000000 in
theorem spec_NodeOf (a : Option Addr) (n c : Nat) (ls : List ByteArray) (p : ByteArray) (w : World) (h : TxtsAt w a n ls) (hp : p.size ≤ 1000000000) :
    Calls Tryz.prog 29 #[.slice a n c, .string p] w fun e w' => e = .returned (.tuple #[.string (ndT ls p), .bool (setB ls && prB p)]) ∧ Below w.heap.size w w' := by
  have HS := hide (l7Set_calls a n c ls w h)
  have HP := hide (fun W => l7Prefix_calls p W hp)
  unfold ndT
  cases hs : setB ls with
  | false =>
    rw [hs] at HS
    clear h
    simp only [Bool.false_and]
    rw [if_neg (by simp)]
    go_enter Tryz.func29, Tryz.ntmps29
    go_wp2_with fail
    refine (unhide HS).mono ?_
    rintro e w1 ⟨rfl, hb1⟩
    go_wp2_with fail
    exact bodyPost_ret (v := .tuple #[.string ByteArray.empty, .bool false]) (by simp [results, Tryz.results29, go_sem]; rfl) rfl ⟨rfl, hb1⟩
  | true =>
    rw [hs] at HS
    obtain ⟨s1, s2, s3⟩ := setB_all hs
    cases hq : prB p with
    | false =>
      rw [hq] at HP
      clear h
      simp only [Bool.true_and]
      rw [if_neg (by simp)]
      go_enter Tryz.func29, Tryz.ntmps29
      go_wp2_with fail
      refine (unhide HS).mono ?_
      rintro e w1 ⟨rfl, hb1⟩
      go_wp2_with fail
      refine (unhide HP _).mono ?_
      rintro e w2 ⟨rfl, rfl⟩
      go_wp2_with fail
      exact bodyPost_ret (v := .tuple #[.string ByteArray.empty, .bool false]) (by simp [results, Tryz.results29, go_sem]; rfl) rfl ⟨rfl, hb1⟩
    | true =>
      rw [hq] at HP
      have hp2 := (prB_hex hq).1
      have HN := hide (fun (W : World) (hW : Below w.heap.size w W) => l7Node_calls (2 - p.size) p (by omega) a n c ls W (h.below hW) (fun s hm => (digB_form (s2 s hm)).1) (by rw [← h.len]; exact s1))
      generalize nodeU (2 - p.size) ls p = T at HN ⊢
      simp only [Bool.true_and]
      rw [if_pos (by simp)]
      clear h s1 s2 s3 hs hq
      go_enter Tryz.func29, Tryz.ntmps29
      go_wp2_with fail
      refine (unhide HS).mono ?_
      rintro e w1 ⟨rfl, hb1⟩
      go_wp2_with fail
      refine (unhide HP _).mono ?_
      rintro e w2 ⟨rfl, rfl⟩
      have HB1 := hide hb1
      clear hb1
      go_wp2_with fail
      refine (unhide HN _ (unhide HB1)).mono ?_
      rintro e w2 ⟨rfl, hb2⟩
      have HB2 := hide (belOnT (unhide HB1) hb2)
      clear hb2
      go_wp2_with fail
      exact bodyPost_ret (v := .tuple #[.string T, .bool true]) (by simp [results, Tryz.results29, go_sem]) rfl ⟨rfl, unhide HB2⟩
end Go.Proofs.YtldgkpnlplfopaaGreatDoor


/- NodeOf by the program. -/
namespace Go.Proofs.YtldgkpnlplfopaaGreatDoor
open Go.RowKit Go.Maps Plain
set_option linter.unusedVariables false

set_option maxRecDepth 100000 in
set_option maxHeartbeats 2000000 in
theorem treeOf_calls (n v : Nat) (hn : n ≤ 2) (hv : v < 16 ^ n) (a : Option Addr) (m c : Nat) (ks : List (List UInt8)) (w : World) (hr : RowAt keyE w a ks) (hm : ks.length = m) (hm2 : m ≤ 200) (h32 : ∀ x ∈ ks, x.length = 32) (hK : KAt w) :
    Calls Tryz.prog 23 #[.slice a m c, brV n v] w fun e w' => ∃ b, e = .returned (.map (some b)) ∧ w.heap.size ≤ b ∧ TrAt w' b (cnt (2 - n)) (grF ks n v (fun _ _ => none)) ∧ Below w.heap.size w w' := by
  have h0 : 1 < w.heap.size := lt_of_cell (hK 0 (by omega))
  obtain ⟨W0, hW0⟩ : ∃ W0, w.alloc (.cells #[.int .i64 (n : Int), .int .u8 (v : Int)] 56) = W0 := ⟨_, rfl⟩
  have hrow0 : W0.heap[w.heap.size]? = some (.cells #[.int .i64 (n : Int), .int .u8 (v : Int)] 56 (0, 0)) := by rw [← hW0]; exact heap_alloc_new _ _
  have hb0 : Below w.heap.size w W0 := by rw [← hW0]; exact (Below.refl _ _).alloc (Nat.le_refl _) _
  have hs0 : W0.heap.size = w.heap.size + 1 := by rw [← hW0]; simp
  obtain ⟨W1, hW1⟩ : ∃ W1, W0.alloc (.map #[] 0) = W1 := ⟨_, rfl⟩
  have hb1 : Below w.heap.size w W1 := by rw [← hW1]; exact hb0.alloc hb0.size _
  have hrow1 : W1.heap[w.heap.size]? = some (.cells #[.int .i64 (n : Int), .int .u8 (v : Int)] 56 (0, 0)) := by rw [← hW1]; exact (heap_alloc_old _ _ (by omega)).trans hrow0
  have q0 : W1.cell? ⟨w.heap.size, 0, none⟩ = some (.int .i64 (n : Int)) := by rw [cell_of_row _ _ 0 _ _ _ hrow1]; rfl
  have q1 : W1.cell? ⟨w.heap.size, 1, none⟩ = some (.int .u8 (v : Int)) := by rw [cell_of_row _ _ 1 _ _ _ hrow1]; rfl
  have hT : TrAt W1 (w.heap.size + 1) 0 (fun _ _ => none) := by
    rw [← hW1, ← hs0]
    exact ⟨_, World.ownsMap_made W0 Tryz.prog 56 nodEl, fun n v x _ _ e => by simp at e⟩
  have hck : cnt (2 - n) ≤ 1000 := by
    have : n = 0 ∨ n = 1 ∨ n = 2 := by omega
    rcases this with rfl | rfl | rfl <;> decide
  have HGR := hide (grow_calls (2 - n) n v (by omega) hv a m c ks W1 (w.heap.size + 1) 0 _ (hr.below hb1) hm hm2 h32 hT (by omega) (hK.below hb1 h0) (by omega))
  rw [Nat.zero_add] at HGR
  have HB1 := hide hb1
  have hmk : (Instr.makeMap 51 none).run Tryz.prog (w.alloc (.cells #[.int .i64 (n : Int), .int .u8 (v : Int)] 56)) = .ok (.map (some (w.heap.size + 1))) W1 := by
    rw [hW0, ← hs0, ← hW1]
    simp [Instr.makeMap]
  unfold brV at HGR ⊢
  clear hr hm h32 hrow0 hb0 hW0 hrow1 hb1 hW1 hT hK
  go_enter Tryz.func23, Tryz.ntmps23
  go_wp2_with fail
  refine (unhide HGR).mono ?_
  rintro e w2 ⟨rfl, ht2, hg2⟩
  have HB2 := hide ((unhide HB1).grown hg2 (unhide HB1).size (fun k e => by cases e; omega))
  have HT2 := hide ht2
  clear ht2 hg2
  go_wp2_with fail
  go_ret
  exact ⟨_, rfl, by omega, unhide HT2, unhide HB2⟩

namespace Plain
theorem brN_pow {p : ByteArray} (hp : prB p = true) : brN p.data.toList < 16 ^ p.size := by
  obtain ⟨p1, p2⟩ := prB_hex hp
  have hl : p.data.toList.length ≤ 2 := by simpa using p1
  have hs : p.size = p.data.toList.length := by simp
  rw [hs]
  generalize p.data.toList = l at hl
  match l, hl with
  | [], _ => simp [brN]
  | [a], _ => have := hexI_bounds (a.toNat : Int); simp [brN]; omega
  | [a, b], _ => have := hexI_bounds (a.toNat : Int); have := hexI_bounds (b.toNat : Int); simp [brN]; omega
  | _ :: _ :: _ :: _, h => simp at h
theorem tN_U {ls : List ByteArray} (h : ∀ s ∈ ls, digB s = true) {p : ByteArray} (hp : prB p = true) : tN (ls.map kyL) p.size (brN p.data.toList) = kyL (nodeU (2 - p.size) ls p) := nodeK_U (2 - p.size) ls p h hp (by have := (prB_hex hp).1; omega)
theorem grF_self {ks : List (List UInt8)} {n v : Nat} {f : Nat → Nat → Option (List UInt8)} : grF ks n v f n v = some (tN ks n v) := by
  unfold grF
  rw [if_pos ⟨Nat.le_refl _, by simp⟩]
end Plain

set_option maxRecDepth 100000 in
set_option maxHeartbeats 4000000 in
theorem impl_NodeOf (a : Option Addr) (n c : Nat) (ls : List ByteArray) (p : ByteArray) (w : World) (h : TxtsAt w a n ls) (hp : p.size ≤ 1000000000) (hKA : KAt w) :
    Calls Tryz.prog 10 #[.slice a n c, .string p] w fun e w' => e = .returned (.tuple #[.string (ndT ls p), .bool (setB ls && prB p)]) ∧ Below w.heap.size w w' := by
  unfold ndT
  cases hs : setB ls with
  | false =>
    have HR := hide (readSet_calls a n c ls w h)
    rw [hs] at HR
    obtain ⟨dn, dv, hbr⟩ : ∃ dn dv : Nat, brA p (prB p) = .agg #[.int .i64 (dn : Int), .int .u8 (dv : Int)] := by
      cases prB p
      · exact ⟨0, 0, rfl⟩
      · exact ⟨_, _, rfl⟩
    have HK := hide (fun W => readBranch_calls p W hp)
    rw [hbr] at HK
    clear h hbr hKA
    generalize prB p = r at HK
    rw [Bool.false_and, if_neg (by simp)]
    go_enter Tryz.func10, Tryz.ntmps10
    go_wp2_with fail
    refine (unhide HR).mono ?_
    rintro e w1 ⟨m, rfl, hb1⟩
    go_wp2_with fail
    refine (unhide HK _).mono ?_
    rintro e w2 ⟨rfl, hb2⟩
    have HB2 := hide (hb1.trans (hb2.mono hb1.size))
    have hz2 := (unhide HB2).size
    clear hb1 hb2
    go_wp2_with fail
    exact bodyPost_ret (v := .tuple #[.string ByteArray.empty, .bool false]) (by simp [results, Tryz.results10, go_sem]; rfl) rfl ⟨rfl, (unhide HB2).alloc hz2 _⟩
  | true =>
    obtain ⟨s1, s2, s3⟩ := setB_all hs
    have HR := hide (readY_calls a n c ls w h hs)
    have HK := hide (fun W => readBranch_calls p W hp)
    cases hq : prB p with
    | false =>
      rw [hq] at HK
      have HBR := hide (show brA p false = .agg #[.int .i64 0, .int .u8 0] from rfl)
      rw [unhide HBR] at HK
      clear h hKA
      rw [Bool.and_false, if_neg (by simp)]
      go_enter Tryz.func10, Tryz.ntmps10
      go_wp2_with fail
      refine (unhide HR).mono ?_
      rintro e w1 ⟨b, rfl, hbb, -, hb1⟩
      go_wp2_with fail
      refine (unhide HK _).mono ?_
      rintro e w2 ⟨rfl, hb2⟩
      have HB2 := hide (hb1.trans (hb2.mono hb1.size))
      have hz2 := (unhide HB2).size
      clear hb1 hb2
      go_wp2_with fail
      exact bodyPost_ret (v := .tuple #[.string ByteArray.empty, .bool false]) (by simp [results, Tryz.results10, go_sem]; rfl) rfl ⟨rfl, (unhide HB2).alloc hz2 _⟩
    | true =>
      rw [hq] at HK
      have h0 : 1 < w.heap.size := lt_of_cell (hKA 0 (by omega))
      have HBR := hide (show brA p true = .agg #[.int .i64 (p.size : Int), .int .u8 (brN p.data.toList : Int)] from rfl)
      rw [unhide HBR] at HK
      have hl3 := brN_lt hq
      have hp2 := (prB_hex hq).1
      have h32 : ∀ x ∈ ls.map kyL, x.length = 32 := fun x hx => by obtain ⟨y, _, rfl⟩ := List.mem_map.1 hx; exact kyL_len y
      have HKS := hide (fun (W : World) (b nn : Nat) (q : KSet W b nn (ls.map kyL)) => keys_calls b nn _ (risK_map s2 s3) h32 (by rw [List.length_map]; omega) W q)
      have HTR := hide (fun (W : World) (hW : Below w.heap.size w W) (a : Option Addr) (m c : Nat) (q : RowAt keyE W a (ls.map kyL)) (hm : (ls.map kyL).length = m) => treeOf_calls p.size (brN p.data.toList) hp2 (brN_pow hq) a m c _ W q hm (by rw [List.length_map] at hm; omega) h32 (hKA.below hW h0))
      have HLO := hide (fun (W : World) (b nq : Nat) (t : TrAt W b nq (grF (ls.map kyL) p.size (brN p.data.toList) (fun _ _ => none))) => (show (Instr.lookup 51 (.map (some b)) (brV p.size (brN p.data.toList)) false).run Tryz.prog W = .ok (.agg (encK (kyL (nodeU (2 - p.size) ls p))).toArray) W from t.look hp2 hl3 (by rw [grF_self, tN_U s2 hq])))
      have HDG := hide (fun W => kdig_calls (kyL (nodeU (2 - p.size) ls p)) (kyL_len _) W)
      rw [dgT_kyL (nodeU_dig _ _ _)] at HDG
      rw [Bool.true_and, if_pos rfl]
      generalize nodeU (2 - p.size) ls p = T at HLO HDG ⊢
      generalize kyL T = x at HLO HDG
      obtain ⟨L, hL⟩ : ∃ L, ls.length = L := ⟨_, rfl⟩
      have HLL := hide hL
      unfold brV at HTR HLO
      generalize brN p.data.toList = dv at HK HTR HLO hl3
      clear h hs hq s2 s3 hL HBR hKA h32
      go_enter Tryz.func10, Tryz.ntmps10
      go_wp2_with fail
      refine (unhide HR).mono ?_
      rintro e w1 ⟨b, rfl, hbb, hks, hb1⟩
      go_wp2_with fail
      refine (unhide HK _).mono ?_
      rintro e w2 ⟨rfl, hb2⟩
      have hks2 := hks.below hb2 hks.lt
      have HB2 := hide (hb1.trans (hb2.mono hb1.size))
      have hz2 := (unhide HB2).size
      obtain ⟨W3, hW3⟩ : ∃ W3, w2.alloc (.cells #[.int .i64 (p.size : Int), .int .u8 (dv : Int)] 56) = W3 := ⟨_, rfl⟩
      have hrow3 : W3.heap[w2.heap.size]? = some (.cells #[.int .i64 (p.size : Int), .int .u8 (dv : Int)] 56 (0, 0)) := by rw [← hW3]; exact heap_alloc_new _ _
      have hl30 : w2.heap.size < W3.heap.size := by rw [← hW3]; simp
      have HB3 := hide (show Below w.heap.size w W3 from by rw [← hW3]; exact (unhide HB2).alloc hz2 _)
      have hz3 := (unhide HB3).size
      have hks3 : KSet W3 b ls.length (ls.map kyL) := by rw [← hW3]; exact hks2.of_block (Below.heap_alloc _ _ _ hks2.lt)
      have HC0 : ∀ W : World, Below W3.heap.size W3 W → W.cell? ⟨w2.heap.size, 0, none⟩ = some (.int .i64 (p.size : Int)) := fun W hW => by rw [cell_of_row _ _ 0 _ _ _ ((hW.block _ hl30).trans hrow3)]; rfl
      have HC1 : ∀ W : World, Below W3.heap.size W3 W → W.cell? ⟨w2.heap.size, 1, none⟩ = some (.int .u8 (dv : Int)) := fun W hW => by rw [cell_of_row _ _ 1 _ _ _ ((hW.block _ hl30).trans hrow3)]; rfl
      have HK3 := hide (fun (W : World) (hW : Below W3.heap.size W3 W) => unhide HKS W b _ (hks3.below hW hks3.lt))
      have HT3 := hide (fun (W : World) (hW : Below W3.heap.size W3 W) => unhide HTR W ((unhide HB3).trans (hW.mono hz3)))
      have HW3 := hide hW3
      have hbd : Below W3.heap.size W3 W3.drew := bdrewT (Below.refl _ _)
      clear hb1 hb2 hks hks2 hks3 hrow3 hW3 HKS HTR
      go_wp2_with fail
      rw [unhide HW3]
      go_region_held3 (fun W' => Below W3.heap.size W3 W') (first | exact hbd | assumption | exact Below.refl _ _) (first
        | (go_at_call 24; refine (unhide HK3 _ hbd).mono ?_; rintro e w5 ⟨v5, rfl, ho5, hb5⟩; obtain ⟨a5, c5, hv5⟩ := ho5.form; rw [List.length_map, unhide HLL] at hv5; subst hv5; have hx5 := hbd.trans (hb5.mono hbd.size))
        | (go_at_call 23; refine (unhide HT3 _ hx5 a5 L c5 ho5.at (by rw [List.length_map]; exact unhide HLL)).mono ?_; rintro e w6 ⟨b6, rfl, hb66, ht6, hb6⟩; have hrun6 := unhide HLO w6 b6 _ ht6; have hx6 := hx5.trans (hb6.mono hx5.size))
        | (go_at_call 31; refine (unhide HDG _).mono ?_; rintro e w7 ⟨rfl, hb7⟩; have hx7 := hx6.trans (hb7.mono hx6.size)))
      all_goals
        have HB7 := hide ((unhide HB3).trans (hx7.mono hz3))
        (try go_wp2_with fail)
        exact bodyPost_ret (v := .tuple #[.string T, .bool true]) (by simp [results, Tryz.results10, go_sem]) rfl ⟨rfl, unhide HB7⟩
end Go.Proofs.YtldgkpnlplfopaaGreatDoor

