/- WeightOf, by the program. -/
import Derived.Test.YtblbmjpmdmihlaaGreatDoorWgt
namespace Go.Proofs.YtblbmjpmdmihlaaGreatDoor
open Go.RowKit Plain
set_option linter.unusedVariables false

def wgV (d : ByteArray) (n : Int) : Value := if digB d && nodB n then .tuple #[.int .u64 (wt d n), .bool true] else .tuple #[.int .u64 0, .bool false]

theorem weigher3_calls (d : ByteArray) (w : World) :
    Calls Tryz.prog 26 #[.string d] w fun e w' => e = .returned (.func (.func 44) #[] #[.pointer (some ⟨w.heap.size, 0, none⟩)]) ∧ w' = w.alloc (.cells #[.string d] 9) := by
  go_enter Tryz.func26, Tryz.ntmps26
  go_wp2_with fail
  go_ret
  exact ⟨rfl, rfl⟩

set_option maxRecDepth 10000 in
theorem impl_WeightOf (d : ByteArray) (n : Int) (w : World) (hd : d.size ≤ 1048576) (hK : KAt w) :
    Calls Tryz.prog 11 #[.string d, .int .i64 n] w fun e w' => e = .returned (wgV d n) ∧ Below w.heap.size w w' := by
  have HD := hide (fun W => impl_DigestOk d W (by omega))
  have HI := hide (fun W => nodeIdW_calls n W)
  have h0 : 1 < w.heap.size := lt_of_cell (hK 0 (by omega))
  have HK := hide hK
  clear hK
  unfold wgV
  cases h1 : digB d with
  | false =>
    rw [h1] at HD
    go_enter Tryz.func11, Tryz.ntmps11
    go_wp2_with fail
    refine (unhide HD _).mono ?_
    rintro e w1 ⟨rfl, rfl⟩
    go_wp2_with fail
    exact bodyPost_ret (v := .tuple #[.int .u64 0, .bool false]) (by simp [results, Tryz.results11, go_sem]) rfl ⟨rfl, Below.refl _ _⟩
  | true =>
    have h71 := digB_len71 h1
    rw [h1] at HD
    cases h2 : nodB n with
    | false =>
      rw [h2] at HI
      clear h1 h2 h71
      go_enter Tryz.func11, Tryz.ntmps11
      go_wp2_with fail
      refine (unhide HD _).mono ?_
      rintro e w1 ⟨rfl, rfl⟩
      go_wp2_with fail
      refine (unhide HI _).mono ?_
      rintro e w1 ⟨rfl, rfl⟩
      go_wp2_with fail
      exact bodyPost_ret (v := .tuple #[.int .u64 0, .bool false]) (by simp [results, Tryz.results11, go_sem]) rfl ⟨rfl, Below.refl _ _⟩
    | true =>
      rw [h2] at HI
      have h3 := (nodB_iff n).1 h2
      obtain ⟨N, rfl⟩ := Int.eq_ofNat_of_zero_le (show 0 ≤ n by omega)
      have hK2 : KAt (w.alloc (.cells #[.string d] 9)) := (unhide HK).below (bel1D w _) h0
      have HW := hide (weigh_calls d N w.heap.size (w.alloc (.cells #[.string d] 9)) hK2 h71 (by omega) (by simp [go_sem]))
      have HG := hide (weigher3_calls d w)
      generalize wt d N = R at HW ⊢
      clear h1 h2 h3 h71 hd hK2
      go_enter Tryz.func11, Tryz.ntmps11
      go_wp2_with fail
      refine (unhide HD _).mono ?_
      rintro e w1 ⟨rfl, rfl⟩
      go_wp2_with fail
      refine (unhide HI _).mono ?_
      rintro e w1 ⟨rfl, rfl⟩
      go_wp2_with fail
      refine (unhide HG).mono ?_
      rintro e w1 ⟨rfl, rfl⟩
      go_wp2_with fail
      refine (unhide HW).mono ?_
      rintro e w2 ⟨rfl, hb2⟩
      have HB2 := hide (belOnD (bel1D w _) hb2)
      clear hb2
      go_wp2_with fail
      exact bodyPost_ret (v := .tuple #[.int .u64 R, .bool true]) (by simp [results, Tryz.results11, go_sem]) rfl ⟨rfl, unhide HB2⟩

end Go.Proofs.YtblbmjpmdmihlaaGreatDoor
