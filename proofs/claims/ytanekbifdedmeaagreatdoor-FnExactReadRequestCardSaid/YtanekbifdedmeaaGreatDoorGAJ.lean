/- Texts of one kind, put together. -/
import Derived.Test.YtanekbifdedmeaaGreatDoorGAF
import Derived.Test.YtanekbifdedmeaaGreatDoorReqK
import Derived.Test.YtanekbifdedmeaaGreatDoorGAH
import Derived.Test.YtanekbifdedmeaaGreatDoorReqU
import Derived.Laws.IdiomStrings
import Derived.Deep.QuietTactic
import Derived.BigQuiet

/- The program's text of a message, whole. -/
namespace Go.Proofs.YtanekbifdedmeaaGreatDoor
open Go.RowKit Plain
set_option linter.unusedVariables false

end Go.Proofs.YtanekbifdedmeaaGreatDoor


/- The program's WriteRequest. -/
namespace Go.Proofs.YtanekbifdedmeaaGreatDoor
open Go.RowKit Plain
set_option linter.unusedVariables false

namespace Plain
theorem texB_le {lo hi : Nat} {p : Nat → Bool} {s : ByteArray} (h : texB lo hi p s = true) : s.size ≤ hi := by
  unfold texB at h
  simp only [Bool.and_eq_true, decide_eq_true_eq] at h
  exact h.1.2
theorem fitB_facts {p : Hd → Bool} {ls : List Hd} (h : fitB p ls = true) : ls.length ≤ 20 ∧ ∀ x ∈ ls, p x = true := by
  unfold fitB at h
  simp only [Bool.and_eq_true, decide_eq_true_eq] at h
  exact ⟨h.1, fun x hx => List.all_eq_true.1 h.2 x hx⟩
theorem qrw_fit {ls : List Hd} (h : fitB qrwB ls = true) : ls.length ≤ 20 ∧ fitH ls := by
  obtain ⟨h1, h2⟩ := fitB_facts h
  refine ⟨h1, fun x hx => ?_⟩
  have h3 := h2 x hx
  unfold qrwB at h3
  rw [Bool.and_eq_true] at h3
  have := texB_le h3.1
  have := texB_le h3.2
  omega
theorem hrw_fit {ls : List Hd} (h : fitB hrwB ls = true) : ls.length ≤ 20 ∧ fitH ls := by
  obtain ⟨h1, h2⟩ := fitB_facts h
  refine ⟨h1, fun x hx => ?_⟩
  have h3 := h2 x hx
  unfold hrwB valB at h3
  simp only [Bool.and_eq_true] at h3
  have := texB_le h3.1.2
  have := texB_le h3.2.1
  omega
end Plain

end Go.Proofs.YtanekbifdedmeaaGreatDoor


/- The text of a message, as the specification builds it: plain mathematics. -/
namespace Go.Proofs.YtanekbifdedmeaaGreatDoor.Plain
open Go.RowKit
set_option linter.unusedVariables false

end Go.Proofs.YtanekbifdedmeaaGreatDoor.Plain


/- The reasons of a response, by both programs. -/
namespace Go.Proofs.YtanekbifdedmeaaGreatDoor
open Go.RowKit Plain
set_option linter.unusedVariables false

namespace Plain
end Plain

end Go.Proofs.YtanekbifdedmeaaGreatDoor


/- The specification's WriteRequest. -/
namespace Go.Proofs.YtanekbifdedmeaaGreatDoor
open Go.RowKit Plain
set_option linter.unusedVariables false

namespace Plain
end Plain

end Go.Proofs.YtanekbifdedmeaaGreatDoor


/- WriteResponse, by both programs. -/
namespace Go.Proofs.YtanekbifdedmeaaGreatDoor
open Go.RowKit Plain
set_option linter.unusedVariables false

namespace Plain
theorem emp_no {t : ByteArray} (h : 1 ≤ t.size) : t.toList.isEmpty = false ∧ (t.toList == []) = false := by
  rw [ByteArray.toList_eq, ext_tail t (by omega)]
  exact ⟨rfl, rfl⟩
end Plain

end Go.Proofs.YtanekbifdedmeaaGreatDoor

