/- What is drawn for references: short texts. -/
import Derived.Test.YtldgkpnlplfopaaDrawN
import Derived.Test.YtldgkpnlplfopaaShaG
import Derived.Test.YtldgkpnlplfopaaDzA
namespace Go.Proofs.Ytldgkpnlplfopaa
open Go.RowKit Plain
set_option linter.unusedVariables false

namespace Plain
def repoL : List ByteArray := [⟨#[97, 112, 112]⟩, ⟨#[97, 47, 98]⟩, ⟨#[108, 105, 98, 47, 119, 101, 98, 45, 49]⟩, ⟨#[120, 46, 121, 47, 122, 95, 95, 113]⟩, ⟨#[109, 45, 45, 110]⟩, ⟨#[97, 112, 112]⟩]
def repoV : Array Value := (repoL.map Value.string).toArray
theorem repoV_get (k : Nat) (h : k < 6) : repoV[k]? = some (.string (repoL.getD k ByteArray.empty)) := by
  match k, h with
  | 0, _ => rfl
  | 1, _ => rfl
  | 2, _ => rfl
  | 3, _ => rfl
  | 4, _ => rfl
  | 5, _ => rfl
theorem repo_size : ∀ k : Fin 6, (repoL.getD k.val ByteArray.empty).size ≤ 9 := by decide +kernel

def taggL : List ByteArray := [⟨#[118, 49]⟩, ⟨#[108, 97, 116, 101, 115, 116]⟩, ⟨#[86, 50, 46, 48]⟩, ⟨#[95, 120]⟩, ⟨#[118, 49]⟩, ⟨#[49, 45, 97]⟩]
def taggV : Array Value := (taggL.map Value.string).toArray
theorem taggV_get (k : Nat) (h : k < 6) : taggV[k]? = some (.string (taggL.getD k ByteArray.empty)) := by
  match k, h with
  | 0, _ => rfl
  | 1, _ => rfl
  | 2, _ => rfl
  | 3, _ => rfl
  | 4, _ => rfl
  | 5, _ => rfl
theorem tagg_size : ∀ k : Fin 6, (taggL.getD k.val ByteArray.empty).size ≤ 6 := by decide +kernel
end Plain





theorem digest_calls (R : Nat) (a : Option Addr) (len cap : Nat) (zs : List Int) (w : World) (h : Rd w R a len cap zs) :
    Calls Try.prog 33 #[.pointer (some ⟨R, 0, none⟩)] w fun e w' => ∃ s : ByteArray, e = .returned (.string s) ∧ s.size = 71 ∧ Rd w' R a len cap zs ∧ OnlyAt ⟨R, 1, none⟩ w w' := by
  have H := hide h
  clear h
  go_enter Try.func33, Try.ntmps33
  go_wp2_with fail
  refine (data_calls R a len cap zs _ (unhide H)).mono ?_
  rintro e w1 ⟨d, rfl, hd, hR1, ho1⟩
  have HD := hide ((DS.start (unhide H)).call hR1 ho1)
  clear hR1 ho1
  go_wp2_with fail
  refine (specDigest_calls d _ (by omega)).mono ?_
  rintro e w2 ⟨rfl, hb2⟩
  have HD2 := hide ((unhide HD).below hb2)
  have hz := digestB_size d
  clear hb2
  generalize digestB d = s at hz
  have HZ := hide hz
  clear hz
  go_wp2_with fail
  go_ret
  exact ⟨s, rfl, unhide HZ, (unhide HD2).rd, (unhide HD2).only⟩

set_option maxHeartbeats 2000000 in
theorem oddDigest_calls (R : Nat) (a : Option Addr) (len cap : Nat) (zs : List Int) (w : World) (h : Rd w R a len cap zs) :
    Calls Try.prog 19 #[.pointer (some ⟨R, 0, none⟩)] w fun e w' => ∃ s : ByteArray, e = .returned (.string s) ∧ s.size ≤ 80 ∧ Rd w' R a len cap zs ∧ OnlyAt ⟨R, 1, none⟩ w w' := by
  have H := hide h
  clear h
  go_enter Try.func19, Try.ntmps19
  go_wp2_with fail
  refine (digest_calls R a len cap zs _ (unhide H)).mono ?_
  rintro e w1 ⟨d, rfl, hd, hR1, ho1⟩
  have HD := hide ((DS.start (unhide H)).call hR1 ho1)
  have hd1 : d.size ≤ 71 := by omega
  have hd2 : 71 ≤ d.size := by omega
  have HDZ := hide hd
  clear hR1 ho1 hd
  go_wp2_with fail
  refine (below_calls R a len cap zs 16 _ (unhide HD).rd (by omega) (by omega)).mono ?_
  rintro e w2 ⟨v, rfl, hv0, hv1, hR2, ho2⟩
  have HD2 := hide ((unhide HD).call hR2 ho2)
  clear hR2 ho2 HD
  by_cases c0 : v = 0
  · subst c0
    go_wp2_with fail
    refine (below_calls R a len cap zs d.size _ (unhide HD2).rd (by omega) (by omega)).mono ?_
    rintro e w3 ⟨u, rfl, hu0, hu1, hR3, ho3⟩
    have HD3 := hide ((unhide HD2).call hR3 ho3)
    clear hR3 ho3
    obtain ⟨K, rfl⟩ := Int.eq_ofNat_of_zero_le hu0
    have i1 : (K : Int) ≤ (d.size : Int) := by omega
    have i2 : (K : Int) + 1 ≤ (d.size : Int) := by omega
    have z1 : (⟨#[103]⟩ : ByteArray).size = 1 := rfl
    have z2 : (d.extract 0 K).size = K := by rw [ByteArray.size_extract]; omega
    have z3 : (d.extract (K + 1) d.size).size = d.size - (K + 1) := by rw [ByteArray.size_extract]; omega
    go_wp2_with fail
    go_region
    all_goals (try go_wp2_with fail)
    all_goals go_ret
    all_goals exact ⟨_, rfl, by rw [ByteArray.size_append, ByteArray.size_append, z1, z2, z3]; omega, ((unhide HD3).drewN 1).rd, ((unhide HD3).drewN 1).only⟩
  · have b0 : (v == 0) = false := by simpa using c0
    by_cases c1 : v = 1
    · subst c1
      go_wp2_with fail
      refine (below_calls R a len cap zs d.size _ (unhide HD2).rd (by omega) (by omega)).mono ?_
      rintro e w3 ⟨u, rfl, hu0, hu1, hR3, ho3⟩
      have HD3 := hide ((unhide HD2).call hR3 ho3)
      clear hR3 ho3
      obtain ⟨K, rfl⟩ := Int.eq_ofNat_of_zero_le hu0
      have i1 : (K : Int) ≤ (d.size : Int) := by omega
      have z2 : (d.extract 0 K).size = K := by rw [ByteArray.size_extract]; omega
      go_wp2_with fail
      go_ret
      exact ⟨_, rfl, by rw [z2]; omega, (unhide HD3).rd, (unhide HD3).only⟩
    · have b1 : (v == 1) = false := by simpa using c1
      by_cases c2 : v = 2
      · subst c2
        have z1 : (⟨#[48]⟩ : ByteArray).size = 1 := rfl
        go_wp2_with fail
        go_ret
        exact ⟨_, rfl, by rw [ByteArray.size_append, z1]; omega, (unhide HD2).rd, (unhide HD2).only⟩
      · have b2 : (v == 2) = false := by simpa using c2
        by_cases c3 : v = 3
        · subst c3
          have z1 : (⟨#[83, 72, 65, 50, 53, 54]⟩ : ByteArray).size = 6 := rfl
          have z2 : (d.extract 6 d.size).size = d.size - 6 := by rw [ByteArray.size_extract]; omega
          have i1 : (6 : Int) ≤ (d.size : Int) := by omega
          go_wp2_with fail
          go_ret
          exact ⟨_, rfl, by rw [ByteArray.size_append, z1, z2]; omega, (unhide HD2).rd, (unhide HD2).only⟩
        · have b3 : (v == 3) = false := by simpa using c3
          go_wp2_with fail
          go_ret
          exact ⟨_, rfl, by omega, (unhide HD2).rd, (unhide HD2).only⟩
end Go.Proofs.Ytldgkpnlplfopaa
