/- Changes that are done until power goes. -/
import Derived.Test.YtknpccpfjclngaaCrsA
import Derived.Test.YtknpccpfjclngaaGAD
import Derived.Test.YtknpccpfjclngaaGAC
namespace Go.Proofs.Ytknpccpfjclngaa
open Go.RowKit Go.Maps Plain
set_option linter.unusedVariables false

namespace Plain
/-- A change that is kept: that of an op, or the beginning of an append. -/
inductive Chg where
  | op (o : Dop)
  | tear (n d : ByteArray) (k : Nat)
def Chg.val : Chg → Value
  | .op o => chV o
  | .tear n d k => .iface 93 (.agg #[.string n, .string d, .int .i64 k])
def Chg.asOp : Chg → Dop
  | .op o => o
  | .tear n d k => ⟨1, n, ⟨#[]⟩, d.extract 0 k⟩
def crF (fs : List Fl) (cs : List Chg) : List Fl := cs.foldl (fun fs c => (doF fs c.asOp).1) fs
theorem crF_take (fs : List Fl) (cs : List Chg) (k : Nat) (h : k < cs.length) : crF fs (cs.take (k + 1)) = (doF (crF fs (cs.take k)) cs[k].asOp).1 := by
  unfold crF
  rw [List.take_succ_eq_append_getElem h, List.foldl_append]
  rfl
theorem chV_one (o : Dop) : (∃ t v, chV o = .iface t v) ∨ chV o = .nilIface := by
  unfold chV
  split
  · split
    · exact .inl ⟨_, _, rfl⟩
    · split
      · exact .inl ⟨_, _, rfl⟩
      · split
        · exact .inl ⟨_, _, rfl⟩
        · exact .inr rfl
  · exact .inr rfl
theorem Chg.one (c : Chg) : (∃ t v, c.val = .iface t v) ∨ c.val = .nilIface := by
  cases c with
  | op o => exact chV_one o
  | tear n d k => exact .inl ⟨_, _, rfl⟩
/-- No name and no file is too long. -/
def BndF (B : Nat) (fs : List Fl) : Prop := ∀ f ∈ fs, f.1.size ≤ 1000000000 ∧ f.2.size ≤ B
theorem do_bnd {B : Nat} {fs : List Fl} (h : BndF B fs) {o : Dop} (ho : SmO o) : BndF (B + 1000000000) (doF fs o).1 := by
  obtain ⟨h1, h2, h3⟩ := ho
  have hg : ∀ i, ((fs.getD i (⟨#[]⟩, ⟨#[]⟩)).2).size ≤ B := fun i => by
    rw [List.getD_eq_getElem?_getD]
    by_cases hi : i < fs.length
    · rw [List.getElem?_eq_getElem hi]; exact (h _ (List.getElem_mem hi)).2
    · rw [List.getElem?_eq_none (by omega)]; show (0 : Nat) ≤ _; omega
  unfold doF
  split
  · intro f hf
    rcases (mem_put _ _ _ f).1 hf with rfl | hf
    · refine ⟨h1, ?_⟩
      split
      · rename_i i _
        show (_ ++ o.data).size ≤ _
        rw [ByteArray.size_append]
        have := hg i
        omega
      · show o.data.size ≤ _; omega
    · have := h f hf.1; omega
  · split
    · intro f hf; have := h f hf; omega
    · rename_i i _
      show BndF _ (if o.kind = 2 then _ else _)
      split
      · intro f hf
        rcases (mem_put _ _ _ f).1 hf with rfl | hf
        · exact ⟨h2, Nat.le_trans (hg i) (by omega)⟩
        · have := h f ((mem_cut _ _ f).1 hf.1).1; omega
      · intro f hf; have := h f ((mem_cut _ _ f).1 hf).1; omega
theorem BndF.fit {B : Nat} {fs : List Fl} (h : BndF B fs) (hB : B ≤ 1000000000000) : FitF fs := fun f hf => by have := h f hf; omega
/-- What is asked of a change. -/
def ChgOk : Chg → Prop
  | .op o => formB o = true ∧ SmO o
  | .tear n d k => n.size ≤ 1000000000 ∧ d.size ≤ 1000000000 ∧ k ≤ d.size
theorem ChgOk.sm {c : Chg} (h : ChgOk c) : SmO c.asOp := by
  cases c with
  | op o => exact h.2
  | tear n d k =>
    obtain ⟨h1, h2, h3⟩ := h
    refine ⟨h1, by show (0 : Nat) ≤ _; omega, ?_⟩
    show (d.extract 0 k).size ≤ _
    rw [ByteArray.size_extract]
    omega
end Plain

/-- Changes as elements. -/
def chgE : Elem Chg where
  E := 68
  S := 59
  n := 1
  bytes := 16
  zero := .nilIface
  enc := fun c => [c.val]
  hund := Try.underlying59
  hinfo := by kernel_rfl
  hz := rfl
  hn := by decide
  hb := by decide
  hlen := fun _ => rfl
  hone := fun x u hu => by
    simp at hu
    subst hu
    rcases x.one with ⟨t, v, h⟩ | h
    · rw [h]; rfl
    · rw [h]; rfl
theorem RowAt.chg {W : World} {a : Option Addr} {xs : List Chg} (h : RowAt chgE W a xs) (i : Nat) (hi : i < xs.length) : ∃ g, a = some ⟨g, 0, none⟩ ∧ g < W.heap.size ∧ W.cell? ⟨g, i, none⟩ = some xs[i].val := by
  obtain ⟨g, e1, hl, h1⟩ := h i hi
  have := (h1 0 (by decide)).1
  rw [show i * chgE.n + 0 = i from Nat.mul_one i] at this
  exact ⟨g, e1, hl, this⟩

/-- What is left behind changes. -/
def UntilPost (b m : Nat) (fs : List Fl) (cs : List Chg) (w : World) (e : Ending) (w' : World) : Prop :=
  e = .returned (.tuple #[]) ∧ Hid (Tab w' b (m + cs.length) (tabF (crF fs cs))) ∧ OnlyRow (some ⟨b, 0, none⟩) w w'

set_option maxRecDepth 10000 in
set_option maxHeartbeats 4000000 in
theorem until_calls (b m : Nat) (fs : List Fl) (a : Option Addr) (n c : Nat) (cs : List Chg) (w : World) (h : Tab w b m (tabF fs)) (hr : Risen fs) (hm : m ≤ 1000) (hB : BndF 1000000 fs) (hn : cs.length = n) (hn2 : n ≤ 200) (hrow : RowAt chgE w a cs) (hne : ¬ inB a b) (hok : ∀ x ∈ cs, ChgOk x) (hlast : ∀ i (hi : i < cs.length), (∃ x y k, cs[i] = .tear x y k) → i + 1 = cs.length) :
    Calls Try.prog 27 #[.map (some b), .slice a n c] w (UntilPost b m fs cs w) := by
  have HN := hide hn
  have HRW := hide hrow
  have HOK := hide hok
  have HLA := hide hlast
  have HNE := hide hne
  have HT0 := hide (show Tab w b (m + 0) (tabF (crF fs (cs.take 0))) from h)
  have HR0 := hide hr
  have HB0 := hide hB
  clear h hr hB hrow hok hlast hn hne
  go_enter_defers Try.func27, Try.ntmps27
  go_wp2_with fail
  go_loopw [8] (fun i wr => ∃ k : Nat, i = .int .i64 k ∧ k ≤ n ∧ Hid (Tab wr b (m + k) (tabF (crF fs (cs.take k)))) ∧ Hid (Risen (crF fs (cs.take k)) ∧ BndF (1000000 + k * 1000000000) (crF fs (cs.take k))) ∧ Hid (OnlyRow (some ⟨b, 0, none⟩) w wr)) (fun i _ => n - (intOf i).toNat)
  case atStart => exact ⟨0, rfl, by omega, HT0, hide ⟨unhide HR0, unhide HB0⟩, hide (OnlyRow.refl _ _)⟩
  case round =>
    clear HT0 HR0 HB0
    obtain ⟨k, rfl, hk, HT, HRB, HO⟩ := hrel
    by_cases hkn : k < n
    · have hkl : k < cs.length := by rw [unhide HN]; exact hkn
      obtain ⟨g, e1, l1, p0⟩ := ((unhide HRW).offR (unhide HO) (fun g hg ⟨o, e⟩ => by cases e; exact unhide HNE hg)).chg k hkl
      have hst := crF_take fs cs k hkl
      have hcok := unhide HOK cs[k] (by simp)
      have hla := unhide HLA k hkl
      obtain ⟨hri, hbn⟩ := unhide HRB
      have hbs := do_bnd hbn hcok.sm
      have hfit := hbn.fit (show 1000000 + k * 1000000000 ≤ 1000000000000 by omega)
      have i0 : (0 : Int) ≤ (k : Int) := by omega
      have i1 : (k : Int) < (n : Int) := by omega
      generalize cs[k] = x at p0 hst hcok hla hbs
      subst e1
      cases x with
      | op o =>
        have HAP := hide (apply_calls b (m + k) _ o wr (unhide HT) hri hcok.1 (by omega) hfit hcok.2.fit)
        have HST := hide hst
        have HRI := hide (risen_do hri o)
        have HBS := hide hbs
        have p0' : wr.cell? ⟨g, k, none⟩ = some (chV o) := p0
        obtain ⟨V, hV⟩ : ∃ V, chV o = V := ⟨_, rfl⟩
        rw [hV] at HAP p0'
        clear p0 hst hcok hla hbs hri hbn hfit hV hkl
        go_wp2_with (go_at_call 36; refine (unhide HAP).mono ?_; rintro e w1 ⟨rfl, ht1, ho1⟩)
        go_roundw
        case rel => exact ⟨k + 1, by go_num, by omega, by rw [unhide HST]; exact ht1, hide (by rw [unhide HST, show 1000000 + (k + 1) * 1000000000 = 1000000 + k * 1000000000 + 1000000000 from by omega]; exact ⟨unhide HRI, unhide HBS⟩), hide ((unhide HO).trans ho1)⟩
        case measure => simp [intOf]; omega
      | tear x y z =>
        have hend := hla ⟨x, y, z, rfl⟩
        rw [unhide HN] at hend
        have htf : ∀ u v, tabF (crF fs (cs.take k)) u = some v → v.size ≤ 1000000000000 := fun u v hx => (hfit (u, v) ((tabF_some _ hri.names u v).1 hx)).2
        obtain ⟨t1, t2, t3⟩ := hcok
        have HAP := hide (apply_tear b (m + k) _ x y z wr (unhide HT) (by omega) (by omega) (by omega) t3 htf)
        have hdo := (do_app hri ⟨1, x, ⟨#[]⟩, y.extract 0 z⟩ rfl).2
        have HFI := hide (show tabF (crF fs cs) = updT (tabF (crF fs (cs.take k))) x (some ((tabF (crF fs (cs.take k)) x).getD ⟨#[]⟩ ++ y.extract 0 z)) from by
          rw [← hdo]
          have : cs = cs.take (k + 1) := (List.take_of_length_le (by rw [unhide HN]; omega)).symm
          rw [this, hst, ← this]
          rfl)
        have p0' : wr.cell? ⟨g, k, none⟩ = some (.iface 93 (.agg #[.string x, .string y, .int .i64 z])) := p0
        have HEN := hide (show m + k + 1 = m + cs.length from by rw [unhide HN]; omega)
        clear p0 hst hla hbs hri hbn hfit hkl hdo htf
        go_wp2_with (go_at_call 36; refine (unhide HAP).mono ?_; rintro e w1 ⟨rfl, ht1, ho1⟩)
        refine leaves_cons (f := 53) (args := #[]) (by simp) (by simp [go_sem]) ?_
        refine (catch_loss _).mono ?_
        rintro e u' w'' ⟨rfl, rfl, rfl⟩
        simp [Leaves, settle, results, Try.results27, go_sem]
        exact ⟨rfl, hide (by rw [unhide HFI, ← unhide HEN]; exact unhide ht1), (unhide HO).trans ho1⟩
    · obtain rfl : k = n := by omega
      have HF := hide (unhide HT)
      rw [List.take_of_length_le (by rw [unhide HN]; exact Nat.le_refl _)] at HF
      clear HT HRB
      go_wp2_with fail
      refine leaves_cons (f := 53) (args := #[]) (by simp) (by simp [go_sem]) ?_
      refine (catch_none _).mono ?_
      rintro e u' w'' ⟨rfl, rfl, rfl⟩
      simp [Leaves, settle, results, Try.results27, go_sem]
      exact ⟨rfl, hide (by rw [unhide HN]; exact unhide HF), unhide HO⟩
end Go.Proofs.Ytknpccpfjclngaa
