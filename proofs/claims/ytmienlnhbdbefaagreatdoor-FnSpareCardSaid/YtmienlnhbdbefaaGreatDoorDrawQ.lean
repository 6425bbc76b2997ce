/- What is drawn for references: short texts. -/
import Derived.Test.YtmienlnhbdbefaaGreatDoorDrawN
import Derived.Test.YtmienlnhbdbefaaGreatDoorShaG
import Derived.Test.YtmienlnhbdbefaaGreatDoorDzA
namespace Go.Proofs.YtmienlnhbdbefaaGreatDoor
open Go.RowKit Plain
set_option linter.unusedVariables false

namespace Plain
def repoL : List ByteArray := [⟨#[97, 112, 112]⟩, ⟨#[97, 47, 98]⟩, ⟨#[108, 105, 98, 47, 119, 101, 98, 45, 49]⟩, ⟨#[120, 46, 121, 47, 122, 95, 95, 113]⟩, ⟨#[109, 45, 45, 110]⟩, ⟨#[97, 112, 112]⟩]
def repoV : Array Value := (repoL.map Value.string).toArray
theorem repoV_get (k : Nat) (h : k < 6) : repoV[k]? = some (.string (repoL.getD k ByteArray.empty)) := by
  match k, h with
  | 0, _ => rfl
  | 1, _ => rfl
  | 2, _ => rfl
  | 3, _ => rfl
  | 4, _ => rfl
  | 5, _ => rfl
theorem repo_size : ∀ k : Fin 6, (repoL.getD k.val ByteArray.empty).size ≤ 9 := by decide +kernel

def taggL : List ByteArray := [⟨#[118, 49]⟩, ⟨#[108, 97, 116, 101, 115, 116]⟩, ⟨#[86, 50, 46, 48]⟩, ⟨#[95, 120]⟩, ⟨#[118, 49]⟩, ⟨#[49, 45, 97]⟩]
def taggV : Array Value := (taggL.map Value.string).toArray
theorem taggV_get (k : Nat) (h : k < 6) : taggV[k]? = some (.string (taggL.getD k ByteArray.empty)) := by
  match k, h with
  | 0, _ => rfl
  | 1, _ => rfl
  | 2, _ => rfl
  | 3, _ => rfl
  | 4, _ => rfl
  | 5, _ => rfl
theorem tagg_size : ∀ k : Fin 6, (taggL.getD k.val ByteArray.empty).size ≤ 6 := by decide +kernel
end Plain







end Go.Proofs.YtmienlnhbdbefaaGreatDoor