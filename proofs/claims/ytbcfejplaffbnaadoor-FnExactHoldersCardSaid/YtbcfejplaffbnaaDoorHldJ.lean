/- Holders, by both programs. -/
import Derived.Test.YtbcfejplaffbnaaDoorHldI
namespace Go.Proofs.YtbcfejplaffbnaaDoor
open Go.RowKit Plain
set_option linter.unusedVariables false

namespace Plain
def hldB (d : ByteArray) (l : List Int) (k : Int) : Bool := digB d && rosB l k
def hldL (d : ByteArray) (l : List Int) (k : Int) : List Int := if hldB d l k then hld (wt d) l k.toNat else []
theorem hldL_yes {d : ByteArray} {l : List Int} {k : Int} (h : hldB d l k = true) : hldL d l k = hld (wt d) l k.toNat := if_pos h
theorem hldL_no {d : ByteArray} {l : List Int} {k : Int} (h : hldB d l k = false) : hldL d l k = [] := by unfold hldL; rw [h]; rfl
theorem hldL_len (d : ByteArray) (l : List Int) (k : Int) : (hldL d l k).length ≤ l.length := by
  unfold hldL
  split
  · exact List.length_filter_le _ _
  · simp
theorem kB_iff (k : Int) : kB k = true ↔ 1 ≤ k ∧ k ≤ 7 := by simp [kB]
end Plain

set_option maxRecDepth 10000 in
set_option maxHeartbeats 2000000 in
theorem spec_Holders (d : ByteArray) (a : Option Addr) (n c : Nat) (ls : List Int) (k : Int) (w : World) (h : IntsAt w a n ls) (hd : d.size ≤ 1048576) :
    Calls Tryd.prog 12 #[.string d, .slice a n c, .int .i64 k] w fun e w' => ∃ v, e = .returned (.tuple #[v, .bool (hldB d ls k)]) ∧ OwnR i64E w' w.heap.size v (hldL d ls k) ∧ Below w.heap.size w w' := by
  have HD := hide (fun W => spec_DigestOk d W (by omega))
  have HI := hide (l9Ids_calls a n c ls 50 w h (by decide))
  have HN := hide (fun W => l1In_calls k 1 7 W)
  rw [show (decide (1 ≤ k) && decide (k ≤ 7)) = kB k from rfl] at HN
  rw [ids50 n ls h.len] at HI
  cases h1 : digB d with
  | false =>
    have hb : hldB d ls k = false := by unfold hldB; rw [h1]; rfl
    rw [hb, hldL_no hb]
    rw [h1] at HD
    clear h hb h1 HI
    go_enter Tryd.func12, Tryd.ntmps12
    go_wp2_with fail
    refine (unhide HD _).mono ?_
    rintro e w1 ⟨rfl, rfl⟩
    go_wp2_with fail
    exact bodyPost_ret (v := .tuple #[_, .bool false]) (by simp [results, Tryd.results12, go_sem]) rfl ⟨_, rfl, ownR_empty i64E w w.heap.size (Nat.le_refl _), bel1D _ _⟩
  | true =>
    have h71 := digB_len71 h1
    rw [h1] at HD
    cases h2 : okIds 0 ls with
    | false =>
      have hb : hldB d ls k = false := by unfold hldB rosB; rw [h2, Bool.false_and, Bool.and_false]
      rw [hb, hldL_no hb]
      rw [h2] at HI
      clear h hb h1 h2 h71
      go_enter Tryd.func12, Tryd.ntmps12
      go_wp2_with fail
      refine (unhide HD _).mono ?_
      rintro e w1 ⟨rfl, rfl⟩
      go_wp2_with fail
      refine (unhide HI).mono ?_
      rintro e w1 ⟨rfl, hb1⟩
      have HB := hide hb1
      clear hb1
      go_wp2_with fail
      exact bodyPost_ret (v := .tuple #[_, .bool false]) (by simp [results, Tryd.results12, go_sem]) rfl ⟨_, rfl, ownR_empty i64E w1 w.heap.size (unhide HB).size, belOnD (unhide HB) (bel1D _ _)⟩
    | true =>
      rw [h2] at HI
      cases h3 : kB k with
      | false =>
        have hb : hldB d ls k = false := by unfold hldB rosB; rw [h3, Bool.and_false, Bool.and_false]
        rw [hb, hldL_no hb]
        rw [h3] at HN
        clear h hb h1 h2 h3 h71
        go_enter Tryd.func12, Tryd.ntmps12
        go_wp2_with fail
        refine (unhide HD _).mono ?_
        rintro e w1 ⟨rfl, rfl⟩
        go_wp2_with fail
        refine (unhide HI).mono ?_
        rintro e w1 ⟨rfl, hb1⟩
        have HB := hide hb1
        clear hb1
        go_wp2_with fail
        refine (unhide HN _).mono ?_
        rintro e w1 ⟨rfl, rfl⟩
        go_wp2_with fail
        exact bodyPost_ret (v := .tuple #[_, .bool false]) (by simp [results, Tryd.results12, go_sem]) rfl ⟨_, rfl, ownR_empty i64E _ w.heap.size (unhide HB).size, belOnD (unhide HB) (bel1D _ _)⟩
      | true =>
        have hb : hldB d ls k = true := by unfold hldB rosB; rw [h1, h2, h3]; rfl
        rw [hb, hldL_yes hb]
        rw [h3] at HN
        have hk := (kB_iff k).1 h3
        obtain ⟨K, rfl⟩ := Int.eq_ofNat_of_zero_le (show 0 ≤ k by omega)
        rw [Int.toNat_natCast]
        have HR := hide (fun (W : World) (hW : Below w.heap.size w W) => l13Holders_calls d a n c ls K W (h.below hW) h2 h71 (by omega) (by omega))
        generalize hld (wt d) ls K = rs at HR ⊢
        clear h hb h1 h2 h3 h71 hk
        go_enter Tryd.func12, Tryd.ntmps12
        go_wp2_with fail
        refine (unhide HD _).mono ?_
        rintro e w1 ⟨rfl, rfl⟩
        go_wp2_with fail
        refine (unhide HI).mono ?_
        rintro e w1 ⟨rfl, hb1⟩
        have HB := hide hb1
        have hz := hb1.size
        clear hb1
        go_wp2_with fail
        refine (unhide HN _).mono ?_
        rintro e w9 ⟨rfl, rfl⟩
        go_wp2_with fail
        refine (unhide HR _ (unhide HB)).mono ?_
        rintro e w2 ⟨v, rfl, ho, hb2⟩
        have HO := hide (ho.le hz)
        have HB2 := hide (belOnD (unhide HB) hb2)
        clear ho hb2
        go_wp2_with fail
        exact bodyPost_ret (v := .tuple #[v, .bool true]) (by simp [results, Tryd.results12, go_sem]) rfl ⟨_, rfl, unhide HO, unhide HB2⟩

theorem field_seat (v : Value) (S : Nat) (W : World) : (Instr.field 54 (.agg #[v, .int .u64 S]) 1).run Tryd.prog W = .ok (.int .u64 S) W := by
  simp [Instr.field, go_sem, run_underlying Tryd.underlying54, asAgg]

set_option maxRecDepth 10000 in
set_option maxHeartbeats 2000000 in
theorem impl_Holders (d : ByteArray) (a : Option Addr) (n c : Nat) (ls : List Int) (k : Int) (w : World) (h : IntsAt w a n ls) (hd : d.size ≤ 1048576) (hK : KAt w) (hT : TzAt w) :
    Calls Tryd.prog 13 #[.string d, .slice a n c, .int .i64 k] w fun e w' => ∃ v, e = .returned (.tuple #[v, .bool (hldB d ls k)]) ∧ OwnR i64E w' w.heap.size v (hldL d ls k) ∧ Below w.heap.size w w' := by
  have h0 : 1 < w.heap.size := lt_of_cell (hK 0 (by omega))
  have HD := hide (fun W => impl_DigestOk d W (by omega))
  have HI := hide (rosterOf_calls a n c ls k w h)
  cases h2 : rosB ls k with
  | false =>
    have hb : hldB d ls k = false := by unfold hldB; rw [h2, Bool.and_false]
    rw [hb, hldL_no hb]
    rw [h2] at HI
    clear h hb h2 hK hT
    go_enter Tryd.func13, Tryd.ntmps13
    go_wp2_with fail
    refine (unhide HI).mono ?_
    rintro e w1 ⟨rfl, hb1⟩
    have HB := hide hb1
    clear hb1
    go_wp2_with fail
    exact bodyPost_ret (v := .tuple #[_, .bool false]) (by simp [results, Tryd.results13, go_sem]) rfl ⟨_, rfl, ownR_nil _ _ _, belOnD (unhide HB) (bel1D _ _)⟩
  | true =>
    rw [h2] at HI
    have h3 : okIds 0 ls = true ∧ kB k = true := by
      unfold rosB at h2
      rwa [Bool.and_eq_true] at h2
    have hk := (kB_iff k).1 h3.2
    cases h1 : digB d with
    | false =>
      have hb : hldB d ls k = false := by unfold hldB; rw [h1]; rfl
      rw [hb, hldL_no hb]
      rw [h1] at HD
      clear h hb h1 h2 hK hT h3 hk
      go_enter Tryd.func13, Tryd.ntmps13
      go_wp2_with fail
      refine (unhide HI).mono ?_
      rintro e w1 ⟨rfl, hb1⟩
      have HB := hide hb1
      clear hb1
      go_wp2_with fail
      refine (unhide HD _).mono ?_
      rintro e w9 ⟨rfl, rfl⟩
      go_wp2_with fail
      exact bodyPost_ret (v := .tuple #[_, .bool false]) (by simp [results, Tryd.results13, go_sem]) rfl ⟨_, rfl, ownR_nil _ _ _, belOnD (unhide HB) (bel1D _ _)⟩
    | true =>
      have h71 := digB_len71 h1
      have hb : hldB d ls k = true := by unfold hldB; rw [h1, h2]; rfl
      rw [hb, hldL_yes hb]
      rw [h1] at HD
      obtain ⟨K, rfl⟩ := Int.eq_ofNat_of_zero_le (show 0 ≤ k by omega)
      rw [Int.toNat_natCast]
      have HS := hide (fun (W : World) (hW : Below w.heap.size w W) => seatingOf_calls a n c ls K d W (h.below hW) h3.1 h71 (hK.below hW h0) (by omega) (by omega))
      rw [← hld_set (wt d) ls K] at HS
      have hhl : (hld (wt d) ls K).length ≤ 100 := by
        have := hldL_len d ls (K : Int)
        rw [hldL_yes hb, Int.toNat_natCast] at this
        have := okIds_len ls 0 (by decide) h3.1
        omega
      have HIDS := hide (fun (W : World) (hW : Below w.heap.size w W) => ids_calls (hld (wt d) ls K) W (hld_ok _ _ _ h3.1) hhl (hT.below hW hT.2))
      generalize hld (wt d) ls K = rs at HS HIDS ⊢
      clear h hb h1 h2 h71 hK hT h3 hk hhl
      go_enter Tryd.func13, Tryd.ntmps13
      go_wp2_with fail
      refine (unhide HI).mono ?_
      rintro e w1 ⟨rfl, hb1⟩
      have HB := hide (belOnD hb1 (bel1D w1 (.cells #[.slice a n c, .int .i64 K] 50)))
      clear hb1
      go_wp2_with fail
      refine (unhide HD _).mono ?_
      rintro e w9 ⟨rfl, rfl⟩
      go_wp2_with fail
      refine (unhide HS _ (unhide HB)).mono ?_
      rintro e w2 ⟨v, rfl, -, hb2⟩
      have HB2 := hide (belOnD (unhide HB) hb2)
      clear hb2
      have hfd := field_seat v (setN rs)
      go_wp2_with fail
      clear hfd
      refine (unhide HIDS _ (unhide HB2)).mono ?_
      rintro e w3 ⟨a3, c3, rfl, ho, hb3⟩
      have HO := hide (ho.le (unhide HB2).size)
      have HB3 := hide (belOnD (unhide HB2) hb3)
      clear ho hb3
      go_wp2_with fail
      exact bodyPost_ret (v := .tuple #[.slice a3 rs.length c3, .bool true]) (by simp [results, Tryd.results13, go_sem]) rfl ⟨_, rfl, unhide HO, unhide HB3⟩
end Go.Proofs.YtbcfejplaffbnaaDoor
