/- Texts of one kind, put together. -/
import Derived.Test.YtanekbifdedmeaaGreatDoorRrJ

/- What stands behind the first line, as the program reads it. -/
namespace Go.Proofs.YtanekbifdedmeaaGreatDoor
open Go.RowKit Plain
set_option linter.unusedVariables false

namespace Plain
/-- What reading headers and a body leaves. -/
def TailQ (B b : Nat) (t : Int × List Hd × List UInt8) (w : World) (e : Ending) (w' : World) : Prop := OnlyAt ⟨b, 1, none⟩ w w' ∧
  ((t.1 = 0 ∧ ∃ a c, e = .returned (.tuple #[.slice a t.2.1.length c, .string (bU t.2.2), .nilIface]) ∧ OwnR hdrE w' B (.slice a t.2.1.length c) t.2.1) ∨
   (t.1 ≠ 0 ∧ ∃ at' : Int, e = .returned (.tuple #[.slice none 0 0, .string ⟨#[]⟩, .iface 66 (.agg #[.int .i64 t.1, .int .i64 at'])])))
end Plain

set_option maxRecDepth 10000 in
set_option maxHeartbeats 8000000 in
theorem tail_calls (b : Nat) (s : ByteArray) (p : Nat) (w w0 : World) (h : RdA b s p w) (hs : s.size ≤ 2000000) (hp : p ≤ s.size) (hb0 : Below w0.heap.size w0 w) (hbl : w0.heap.size ≤ b) (hv : RrV w0) (hP : P10 w0) :
    Calls Tryz.prog 77 #[.pointer (some ⟨b, 0, none⟩)] w (TailQ w.heap.size b (talF (numG 20000) (restL s p)) w) := by
  have HH := hide (head_calls b s p w w0 h hs hp hb0 hbl hv hP)
  have hbw : b < w.heap.size := lt_of_cell h.c0
  obtain ⟨T, hT⟩ : ∃ T, talF (numG 20000) (restL s p) = T := ⟨_, rfl⟩
  rw [hT]
  unfold talF at hT
  generalize hdF (numG 20000) ((restL s p).length + 1) (restL s p) ⟨[], 0, false⟩ = R at hT HH
  have HT := hide hT
  clear hT h hb0 hbl hv hP
  go_enter Tryz.func77, Tryz.ntmps77
  go_wp2_with fail
  refine (unhide HH).mono ?_
  cases R with
  | none =>
    rintro e w1 ⟨ho1, at', rfl⟩
    have HO1 := hide ho1
    have HX := hide (show T = (3, [], []) from (unhide HT).symm)
    clear ho1 HT HH
    go_wp2_with fail
    go_ret3
    rw [unhide HX]
    exact ⟨(unhide HO1).next (bel1 _ _) (unhide HO1).size, .inr ⟨by decide, at', rfl⟩⟩
  | some r =>
    obtain ⟨st, bd⟩ := r
    rintro e w1 ⟨ho1, a, c, q, rfl, hown, hA, hq, hbd⟩
    have hx : (s.extract q s.size).data.toList = bd := by rw [ext_drop]; exact hbd
    have hbu := bU_of hx
    have hbs : bd.length = (s.extract q s.size).size := by rw [← hx, len_dataR]
    obtain ⟨W1, hW1⟩ : ∃ W1, W1 = w1.alloc (.cells #[.slice a st.rows.length c, .int .i64 st.len, .bool st.told] 142) := ⟨_, rfl⟩
    have hb1 : Below w1.heap.size w1 W1 := by rw [hW1]; exact bel1 _ _
    have hAW := hA.call hb1
    have hBW : Blk W1 w1.heap.size [.slice a st.rows.length c, .int .i64 st.len, .bool st.told] := by rw [hW1]; exact Blk.new w1 _ _
    obtain ⟨e0, e1, e2, _, _, _⟩ := hBW.three
    have HOW := hide (hown.keep hb1)
    have HO1 := hide (ho1.next hb1 ho1.size)
    have HRS := hide (rest_ok b 0 s q W1 hAW.c0 hAW.c1 (by omega) hq)
    have HT2 := unhide HT
    simp only at HT2
    rw [hbs] at HT2
    have c1 := hAW.c1
    have HW1 := hide hW1.symm
    generalize s.extract q s.size = body at hbu HRS HT2 hx
    have HBU := hide hbu
    clear hx hbs hW1 hb1 hBW hown ho1 hA HT HH hbd hbu
    by_cases hl : (body.size : Int) = st.len
    · rw [if_pos hl] at HT2
      have HX := hide HT2.symm
      clear HT2
      go_wp2_with fail
      rw [unhide HW1]
      refine (unhide HRS).mono ?_
      rintro e w2 ⟨rfl, k, rfl⟩
      go_wp2_with fail
      go_ret3
      rw [unhide HX]
      exact ⟨(unhide HO1).drewN k, .inl ⟨rfl, a, c, by rw [← unhide HBU]; rfl, (unhide HOW).drewN k⟩⟩
    · rw [if_neg hl] at HT2
      have HX := hide HT2.symm
      clear HT2
      go_wp2_with fail
      rw [unhide HW1]
      refine (unhide HRS).mono ?_
      rintro e w2 ⟨rfl, k, rfl⟩
      go_wp2_with fail
      go_region
      all_goals (try go_wp2)
      all_goals go_ret3
      all_goals (rw [unhide HX]; exact ⟨(unhide HO1).drewN (k + 1), .inr ⟨by decide, q, rfl⟩⟩)
end Go.Proofs.YtanekbifdedmeaaGreatDoor


/- ReadResponse, by the program. -/
namespace Go.Proofs.YtanekbifdedmeaaGreatDoor
open Go.RowKit Plain
set_option linter.unusedVariables false

namespace Plain
end Plain

end Go.Proofs.YtanekbifdedmeaaGreatDoor


/- ReadResponse, by the program: the test against the text. -/
namespace Go.Proofs.YtanekbifdedmeaaGreatDoor
open Go.RowKit Plain
set_option linter.unusedVariables false

namespace Plain
theorem tal_fit {num : List UInt8 → Int} {s : List UInt8} {hs : List Hd} {b : List UInt8} (h : talF num s = (0, hs, b)) : fitB hrwB hs = true ∧ b.length ≤ s.length := by
  rcases linF_is (s.length + 1) s (Nat.lt_succ_self _) with ⟨_, q⟩ | ⟨ls, b', q, q2, _, _⟩
  · rw [tal_none q] at h
    exact absurd (show (3 : Int) = 0 from congrArg Prod.fst h) (by decide)
  · rw [tal_some q] at h
    cases ho : okS (fldF num ls ⟨[], 0, false⟩) with
    | none =>
      rw [ho] at h
      exact absurd (show (3 : Int) = 0 from congrArg Prod.fst h) (by decide)
    | some st =>
      rw [ho] at h
      simp only at h
      split at h
      · have h2 := congrArg Prod.snd h
        simp only [Prod.mk.injEq] at h2
        obtain ⟨rfl, rfl⟩ := h2
        refine ⟨?_, by rw [q2]; simp <;> omega⟩
        unfold okS at ho
        split at ho
        · cases ho
        · split at ho
          · rename_i hf
            cases ho
            exact hf
          · cases ho
      · exact absurd (show (4 : Int) = 0 from congrArg Prod.fst h) (by decide)
end Plain

end Go.Proofs.YtanekbifdedmeaaGreatDoor

