/- Texts of one kind, put together. -/
import Derived.Test.YtldgkpnlplfopaaGreatDoorHzA
import Derived.Test.YtldgkpnlplfopaaGreatDoorShaG
import Derived.Test.YtldgkpnlplfopaaGreatDoorLzA
import Derived.Maps.Own
import Derived.Maps.OwnOps
import Derived.Maps.OwnSet
import Derived.Maps.Views
import Derived.DeepKeys4
import Derived.Deep.RegionHeld3

/- Nibble of both programs by its contract. -/
namespace Go.Proofs.YtldgkpnlplfopaaGreatDoor
open Go.RowKit Plain
set_option linter.unusedVariables false

namespace Plain
def nibI (s : ByteArray) (k : Int) : Int := if digB s = true ∧ 0 ≤ k ∧ k ≤ 63 then hexI ((s.data.toList.getD (7 + k.toNat) 0).toNat) else -1

theorem digB_n71 {s : ByteArray} (h : digB s = true) : s.size = 71 := by
  unfold digB at h
  simp at h
  exact h.1.1
end Plain





end Go.Proofs.YtldgkpnlplfopaaGreatDoor


/- The digits of a digest are those of its words; the digest of abc. -/
namespace Go.Proofs.YtldgkpnlplfopaaGreatDoor
open Go.RowKit Plain
set_option linter.unusedVariables false

namespace Plain
theorem hexTo_get (n : Int) (j : Nat) (h : j < 8) : (hexTo n 8).getD j 0 = digI (n / 2 ^ (4 * (7 - j)) % 16) := by simp [hexTo, List.getD, h]
theorem flat_getN (L : List Int) : ∀ k, k < 8 * L.length → (L.flatMap fun n => hexTo n 8).getD k 0 = (hexTo (L.getD (k / 8) 0) 8).getD (k % 8) 0 := by
  induction L with
  | nil => intro k h; simp at h
  | cons x L ih =>
    intro k h
    have hl := hexTo_length x 8
    rw [List.flatMap_cons]
    by_cases hk : k < 8
    · rw [show k / 8 = 0 from by omega, show k % 8 = k from by omega]
      simp [List.getD, List.getElem?_append_left (show k < (hexTo x 8).length by omega)]
    · have h1 := ih (k - 8) (by simp at h; omega)
      rw [show k / 8 = (k - 8) / 8 + 1 from by omega, show k % 8 = (k - 8) % 8 from by omega]
      have e : (hexTo x 8 ++ L.flatMap fun n => hexTo n 8).getD k 0 = (L.flatMap fun n => hexTo n 8).getD (k - 8) 0 := by
        simp [List.getD, List.getElem?_append_right (show (hexTo x 8).length ≤ k by omega), hl]
      rw [e, h1]
      rfl
theorem dig_all : ∀ x : Fin 16, hexI (digI x.val) = x.val ∧ 0 ≤ digI x.val ∧ digI x.val < 256 := by decide +kernel
theorem dig_hex (y : Int) (h0 : 0 ≤ y) (h1 : y < 16) : hexI (digI y) = y ∧ 0 ≤ digI y ∧ digI y < 256 := by
  obtain ⟨n, rfl⟩ := Int.eq_ofNat_of_zero_le h0
  exact dig_all ⟨n, by omega⟩
theorem byte_of (c : Int) (h0 : 0 ≤ c) (h1 : c < 256) : (((UInt8.ofNat c.toNat).toNat : Nat) : Int) = c := by
  simp
  omega
/-- The byte of a digest in place 7 + k, as a digit. -/
theorem digest_at (v : List Int) (hv : v.length = 8) (k : Nat) (hk : k < 64) : (((strOfNums (digTo v 8)).data.toList.getD (7 + k) 0).toNat : Int) = digI (v.getD (k / 8) 0 / 2 ^ (4 * (7 - k % 8)) % 16) := by
  rw [strOfNums_data]
  have hlen := digTo_length v 8 (by omega)
  have e : (digTo v 8).getD (7 + k) 0 = digI (v.getD (k / 8) 0 / 2 ^ (4 * (7 - k % 8)) % 16) := by
    rw [← hexTo_get _ _ (by omega), ← flat_getN v k (by omega)]
    unfold digTo
    rw [List.take_of_length_le (by omega)]
    simp [List.getD, headL]
    rw [show 7 + k = k + 7 from by omega]
    rfl
  have hb := dig_hex (v.getD (k / 8) 0 / 2 ^ (4 * (7 - k % 8)) % 16) (by omega) (by omega)
  rw [List.getD, List.getElem?_map]
  have e2 : (digTo v 8)[7 + k]? = some (digI (v.getD (k / 8) 0 / 2 ^ (4 * (7 - k % 8)) % 16)) := by
    rw [← e, List.getElem?_eq_getElem (by omega)]
    simp [List.getD, List.getElem?_eq_getElem (show 7 + k < (digTo v 8).length by omega)]
  rw [e2]
  exact byte_of _ hb.2.1 hb.2.2
theorem digest_ok (v : List Int) (hv : v.length = 8) : digB (strOfNums (digTo v 8)) = true := by
  have hlen := digTo_length v 8 (by omega)
  have hsz : (strOfNums (digTo v 8)).size = 71 := by rw [strOfNums_size, hlen]
  rw [digB_rest hsz]
  · unfold hexFrom
    rw [List.all_eq_true]
    intro c hc
    obtain ⟨i, hi, rfl⟩ := List.mem_iff_getElem.1 hc
    have hi2 : i < 64 := by rw [List.length_drop] at hi; have : (strOfNums (digTo v 8)).data.toList.length = 71 := hsz; omega
    have h := digest_at v hv i hi2
    have hb := dig_hex (v.getD (i / 8) 0 / 2 ^ (4 * (7 - i % 8)) % 16) (by omega) (by omega)
    rw [List.getElem_drop]
    have h3 : (strOfNums (digTo v 8)).data.toList.getD (7 + i) 0 = (strOfNums (digTo v 8)).data.toList[7 + i]'(by rw [List.length_drop] at hi; omega) := by
      rw [List.getD, List.getElem?_eq_getElem]; rfl
    rw [h3] at h
    rw [h, hb.1]
    simp
    omega
  · have e : ((strOfNums (digTo v 8)).extract 0 7).toList = shaL := by
      have e2 : (strOfNums (digTo v 8)).extract 0 7 = strOfNums headL := by
        apply ByteArray.ext
        rw [ByteArray.data_extract]
        unfold digTo strOfNums
        simp [headL]
      rw [e2]
      decide +kernel
    rw [e]; rfl
theorem digest_nib (v : List Int) (hv : v.length = 8) (k : Nat) (hk : k < 64) : nibI (strOfNums (digTo v 8)) k = v.getD (k / 8) 0 / 2 ^ (4 * (7 - k % 8)) % 16 := by
  unfold nibI
  rw [if_pos ⟨digest_ok v hv, by omega, by omega⟩, Int.toNat_natCast, digest_at v hv k hk]
  exact (dig_hex _ (by omega) (by omega)).1
set_option maxRecDepth 100000 in
theorem abc_is : digestB ⟨#[97, 98, 99]⟩ = ⟨#[115, 104, 97, 50, 53, 54, 58, 98, 97, 55, 56, 49, 54, 98, 102, 56, 102, 48, 49, 99, 102, 101, 97, 52, 49, 52, 49, 52, 48, 100, 101, 53, 100, 97, 101, 50, 50, 50, 51, 98, 48, 48, 51, 54, 49, 97, 51, 57, 54, 49, 55, 55, 97, 57, 99, 98, 52, 49, 48, 102, 102, 54, 49, 102, 50, 48, 48, 49, 53, 97, 100]⟩ := by decide +kernel
end Plain
end Go.Proofs.YtldgkpnlplfopaaGreatDoor


/- Trees of digests: the mathematics. -/
namespace Go.Proofs.YtldgkpnlplfopaaGreatDoor
open Go.RowKit Go.Maps Plain
set_option linter.unusedVariables false

namespace Plain
/-- A digit as a text. -/
def dgC (c : Nat) : ByteArray := ⟨#[hxC c]⟩
/-- Texts one behind another. -/
def catB : List ByteArray → ByteArray := List.foldl (· ++ ·) ByteArray.empty
theorem digest_dig (s : ByteArray) : digB (digestB s) = true := digest_ok _ (hN_length _ _)
theorem foldl_cat (l : List ByteArray) (a b : ByteArray) : l.foldl (· ++ ·) (a ++ b) = a ++ l.foldl (· ++ ·) b := by
  induction l generalizing b with
  | nil => rfl
  | cons x l ih => rw [List.foldl_cons, List.foldl_cons, ByteArray.append_assoc, ih]
theorem catB_cons (x : ByteArray) (l : List ByteArray) : catB (x :: l) = x ++ catB l := by
  unfold catB
  rw [List.foldl_cons, ByteArray.empty_append]
  have := foldl_cat l x ByteArray.empty
  rw [ByteArray.append_empty] at this
  exact this
theorem catB_snoc (l : List ByteArray) (x : ByteArray) : catB (l ++ [x]) = catB l ++ x := by
  unfold catB
  rw [List.foldl_append]
  rfl
theorem catB_size (l : List ByteArray) (h : ∀ s ∈ l, s.size = 71) : (catB l).size = 71 * l.length := by
  induction l with
  | nil => rfl
  | cons x l ih => rw [catB_cons, ByteArray.size_append, ih fun s hs => h s (List.mem_cons_of_mem _ hs), h x (by simp), List.length_cons]; omega
/-- A prefix and a digit more. -/
theorem dgC_size (c : Nat) : (dgC c).size = 1 := rfl
theorem hxC_hexI : ∀ c : Fin 16, hexI (hxC c.val).toNat = (c.val : Int) := by decide +kernel
theorem pr_next {p : ByteArray} (hp : prB p = true) (h : p.size < 2) {c : Nat} (hc : c < 16) : prB (p ++ dgC c) = true := by
  obtain ⟨p1, p2⟩ := prB_hex hp
  unfold prB
  rw [Bool.and_eq_true]
  refine ⟨?_, by rw [ByteArray.size_append, dgC_size]; simp; omega⟩
  unfold hexFrom
  rw [List.drop_zero, List.all_eq_true]
  intro x hx
  have e : (p ++ dgC c).data.toList = p.data.toList ++ [hxC c] := by simp [dgC]
  rw [e, List.mem_append] at hx
  rcases hx with q | q
  · exact decide_eq_true (p2 x q)
  · rw [List.mem_singleton] at q
    subst q
    have := hxC_hexI ⟨c, hc⟩
    simp only at this
    exact decide_eq_true (by rw [this]; omega)
theorem br_next (p : ByteArray) {c : Nat} (hc : c < 16) : brN (p ++ dgC c).data.toList = brN p.data.toList * 16 + c := by
  have e : (p ++ dgC c).data.toList = p.data.toList ++ [hxC c] := by simp [dgC]
  rw [e]
  unfold brN
  rw [List.foldl_append]
  have := hxC_hexI ⟨c, hc⟩
  simp only at this
  simp [this]
/-- What begins with a longer prefix begins with the shorter one. -/
theorem pre_mono {p s : ByteArray} (c : Nat) (h : preB (p ++ dgC c) s = true) : preB p s = true := by
  unfold preB at h ⊢
  rw [beq_iff_eq, ByteArray.toList_eq, ByteArray.toList_eq] at h
  rw [beq_iff_eq, ByteArray.toList_eq, ByteArray.toList_eq]
  have e : (p ++ dgC c).data.toList = p.data.toList ++ [hxC c] := by simp [dgC]
  rw [e, ByteArray.size_append, dgC_size] at h
  have h2 := congrArg (List.take p.size) h
  rw [List.take_append_of_le_length (by simp), List.take_of_length_le (l := p.data.toList) (by simp)] at h2
  rw [← h2]
  simp [List.extract_eq_take_drop, List.take_take]
/-- A node of a tree, by its prefix; k digits lack to a leaf. -/
def nodeU : Nat → List ByteArray → ByteArray → ByteArray
  | 0, ls, p => digestB (catB (ls.filter (preB p)))
  | k + 1, ls, p => digestB (catB ((List.range 16).map fun c => nodeU k ls (p ++ dgC c)))
theorem nodeU_size (k : Nat) (ls : List ByteArray) (p : ByteArray) : (nodeU k ls p).size = 71 := by
  cases k <;> exact digestB_size _
theorem nodeU_dig (k : Nat) (ls : List ByteArray) (p : ByteArray) : digB (nodeU k ls p) = true := by
  cases k <;> exact digest_dig _
theorem nodeU_filt : ∀ (k : Nat) (ls : List ByteArray) (p q : ByteArray), (∀ s, preB p s = true → preB q s = true) → nodeU k (ls.filter (preB q)) p = nodeU k ls p
  | 0, ls, p, q, h => by
    unfold nodeU
    rw [List.filter_filter]
    congr 2
    apply List.filter_congr
    intro s _
    cases hp : preB p s with
    | false => simp
    | true => simp [h s hp]
  | k + 1, ls, p, q, h => by
    unfold nodeU
    congr 2
    apply List.map_congr_left
    intro c _
    exact nodeU_filt k ls (p ++ dgC c) q fun s hs => h s (pre_mono c hs)
/-- The same, of keys, as the program's tree has it. -/
def nodeK : Nat → List (List UInt8) → Nat → Nat → List UInt8
  | 0, ks, n, v => kyL (digestB (catB ((ks.filter (hoB n v)).map dgT)))
  | k + 1, ks, n, v => kyL (digestB (catB ((List.range 16).map fun c => dgT (nodeK k (ks.filter (hoB n v)) (n + 1) (v * 16 + c)))))
theorem nodeK_len (k : Nat) (ks : List (List UInt8)) (n v : Nat) : (nodeK k ks n v).length = 32 := by
  cases k <;> exact kyL_len _
theorem nodeK_U : ∀ (k : Nat) (ls : List ByteArray) (p : ByteArray), (∀ s ∈ ls, digB s = true) → prB p = true → p.size + k = 2 → nodeK k (ls.map kyL) p.size (brN p.data.toList) = kyL (nodeU k ls p)
  | 0, ls, p, h, hp, hk => by
    unfold nodeK nodeU
    rw [filt_map hp h, map_back fun s hs => h s (List.mem_filter.1 hs).1]
  | k + 1, ls, p, h, hp, hk => by
    unfold nodeK nodeU
    congr 3
    apply List.map_congr_left
    intro c hc
    have hc16 : c < 16 := List.mem_range.1 hc
    have hsz : (p ++ dgC c).size = p.size + 1 := by rw [ByteArray.size_append, dgC_size]
    have := nodeK_U k (ls.filter (preB p)) (p ++ dgC c) (fun s hs => h s (List.mem_filter.1 hs).1) (pr_next hp (by omega) hc16) (by omega)
    rw [hsz, br_next p hc16] at this
    rw [filt_map hp h, this, dgT_kyL (nodeU_dig _ _ _)]
    exact nodeU_filt k ls (p ++ dgC c) p fun s hs => pre_mono c hs
end Plain
end Go.Proofs.YtldgkpnlplfopaaGreatDoor


/- The program's tree: a map from branches to nodes. -/
namespace Go.Proofs.YtldgkpnlplfopaaGreatDoor
open Go.RowKit Go.Maps Plain
set_option linter.unusedVariables false

namespace Plain
def keyBr (n v : Nat) : Lit := .string (keyBytes [.int .i64 (n : Int), .int .u8 (v : Int)])
theorem keyBr_ok (n v : Nat) : WideAt.IsKeyLit (keyBr n v) := trivial
/-- How a node reads that is a map's element. -/
noncomputable def nodEl (v : Value) : Option (DataW Unit × List MemPlace) := open Classical in if h : ∃ x : List UInt8, x.length = 32 ∧ v = .agg (encK x).toArray then some (.lit (.string h.choose), []) else none
end Plain
theorem keyedBr : Keyed Tryz.prog 56 := Keyed.of_law (deep_law_laid laidOutS (m := 3) (by omega) (of_decide_eq_true (by kernel_rfl)) (by kernel_rfl) (by kernel_rfl))
theorem cellsBr : Tryz.prog.cellsOf 56 = 2 := by kernel_rfl
theorem cellsIn : Tryz.prog.cellsOf 3 = 1 := by kernel_rfl
theorem keyTypeBr : Tryz.prog.keyType 56 = true := by kernel_rfl
theorem sizeBr : Tryz.prog.types.size + 1 = Tryz.prog.types.size - 1 + 1 + 1 := by
  have h : 1 ≤ Tryz.prog.types.size := of_decide_eq_true (by kernel_rfl)
  omega
theorem keyBr_of {n v : Nat} (hn : n ≤ 2) (hv : v < 256) : keyOf Tryz.prog 56 (brV n v) = some (keyBr n v) := by
  have hu := Tryz.underlying56
  have hi := Tryz.underlying3
  have e1 : ∀ d, Tryz.prog.keyLits (d + 1) 3 [.int .i64 (n : Int)] = some [.int .i64 (n : Int)] := fun d => by
    have : (Lit.int .i64 (n : Int)).wf = true := by simp [Lit.wf, IntKind.min, IntKind.max, IntKind.bits, IntKind.signed]; omega
    simp [Program.keyLits, hi, this]
  have e2 : ∀ d, Tryz.prog.keyLits (d + 1) 5 [.int .u8 (v : Int)] = some [.int .u8 (v : Int)] := fun d => keyLits_u8 d _ ⟨by omega, by omega⟩
  unfold keyOf brV
  rw [hu]
  simp only [keyTypeBr, Value.formed, hu, cellsBr, Value.cells]
  rw [sizeBr]
  unfold Program.keyLits
  rw [hu]
  simp [cellsBr, cellsIn, cellsU8, e1, e2, keyBr]
theorem keyBr_inj {n v n' v' : Nat} (hn : n ≤ 2) (hv : v < 256) (hn' : n' ≤ 2) (hv' : v' < 256) (e : keyBr n v = keyBr n' v') : n = n' ∧ v = v' := by
  have := keyedBr.inj (keyBr_of hn hv) (by rw [e]; exact keyBr_of hn' hv')
  unfold brV at this
  simp at this
  omega
theorem nodEl_of {x : List UInt8} (h : x.length = 32) : nodEl (.agg (encK x).toArray) = some (.lit (.string x), []) := by
  have hx : ∃ y : List UInt8, y.length = 32 ∧ Value.agg (encK x).toArray = .agg (encK y).toArray := ⟨x, h, rfl⟩
  unfold nodEl
  rw [dif_pos hx]
  have h1 := hx.choose_spec.1
  have h2 := hx.choose_spec.2
  have h3 : encK x = encK hx.choose := by simpa using h2
  rw [← encK_inj h h1 h3]
theorem nodEl_inv {v : Value} {x : List UInt8} {ps : List MemPlace} (h : nodEl v = some (.lit (.string x), ps)) : v = .agg (encK x).toArray ∧ x.length = 32 := by
  unfold nodEl at h
  split at h
  · rename_i hx
    have h1 := hx.choose_spec.1
    have h2 := hx.choose_spec.2
    have h3 : hx.choose = x := by simp at h; exact h.1
    rw [h3] at h1 h2
    exact ⟨h2, h1⟩
  · simp at h
theorem zeroKv (w : World) : (zeroValue 63).run Tryz.prog w = .ok (.agg (encK (List.replicate 32 0)).toArray) w := by kernel_rfl

namespace Plain
/-- One branch is another or below it. -/
def inn (n v n' v' : Nat) : Prop := n ≤ n' ∧ v' / 16 ^ (n' - n) = v
/-- One of the first i behind a branch is another or above it. -/
def ptB (n v i n' v' : Nat) : Prop := n + 1 ≤ n' ∧ v * 16 ≤ v' / 16 ^ (n' - (n + 1)) ∧ v' / 16 ^ (n' - (n + 1)) < v * 16 + i
theorem ptB_zero (n v n' v' : Nat) : ¬ ptB n v 0 n' v' := fun h => by have := h.2; omega
theorem ptB_next (n v i n' v' : Nat) : ptB n v (i + 1) n' v' ↔ ptB n v i n' v' ∨ inn (n + 1) (v * 16 + i) n' v' := by
  unfold ptB inn
  constructor
  · rintro ⟨h1, h2, h3⟩
    by_cases q : v' / 16 ^ (n' - (n + 1)) = v * 16 + i
    · exact .inr ⟨h1, q⟩
    · exact .inl ⟨h1, h2, by omega⟩
  · rintro (⟨h1, h2, h3⟩ | ⟨h1, h2⟩)
    · exact ⟨h1, h2, by omega⟩
    · exact ⟨h1, by omega, by omega⟩
theorem ptB_inn (n v n' v' : Nat) : inn n v n' v' ↔ (n' = n ∧ v' = v) ∨ ptB n v 16 n' v' := by
  unfold ptB inn
  constructor
  · rintro ⟨h1, h2⟩
    by_cases q : n' = n
    · subst q
      simp at h2
      exact .inl ⟨rfl, h2⟩
    · refine .inr ⟨by omega, ?_⟩
      have e : n' - n = (n' - (n + 1)) + 1 := by omega
      rw [e, Nat.pow_succ, ← Nat.div_div_eq_div_mul] at h2
      omega
  · rintro (⟨h1, h2⟩ | ⟨h1, h2, h3⟩)
    · subst h1; subst h2
      exact ⟨Nat.le_refl _, by simp⟩
    · refine ⟨by omega, ?_⟩
      have e : n' - n = (n' - (n + 1)) + 1 := by omega
      rw [e, Nat.pow_succ, ← Nat.div_div_eq_div_mul]
      omega
theorem ho_inn {n v n' v' : Nat} (h : inn n v n' v') (hn' : n' ≤ 2) {x : List UInt8} (hx : hoB n' v' x = true) : hoB n v x = true := by
  obtain ⟨h1, h2⟩ := h
  unfold hoB at hx ⊢
  have hx := of_decide_eq_true hx
  refine decide_eq_true ?_
  rw [← h2, ← hx, Nat.div_div_eq_div_mul]
  congr 1
  rw [show (16 : Nat) = 2 ^ 4 from rfl, ← Nat.pow_mul, ← Nat.pow_add]
  congr 1
  omega
theorem inn_trans {n v n1 v1 n2 v2 : Nat} (h : inn n v n1 v1) (h' : inn n1 v1 n2 v2) : inn n v n2 v2 := by
  obtain ⟨a, b⟩ := h
  obtain ⟨c, d⟩ := h'
  refine ⟨by omega, ?_⟩
  rw [← b, ← d, Nat.div_div_eq_div_mul, ← Nat.pow_add]
  congr 2
  omega
theorem inn_next (n v c : Nat) (hc : c < 16) : inn n v (n + 1) (v * 16 + c) := ⟨by omega, by rw [show n + 1 - n = 1 from by omega]; omega⟩
theorem nodeK_filt : ∀ (k : Nat) (ks : List (List UInt8)) (n v n' v' : Nat), inn n v n' v' → n' + k = 2 → nodeK k (ks.filter (hoB n v)) n' v' = nodeK k ks n' v'
  | 0, ks, n, v, n', v', h, hk => by
    unfold nodeK
    rw [List.filter_filter]
    congr 4
    apply List.filter_congr
    intro s _
    cases hp : hoB n' v' s with
    | false => simp
    | true => simp [ho_inn h (by omega) hp]
  | k + 1, ks, n, v, n', v', h, hk => by
    unfold nodeK
    congr 3
    apply List.map_congr_left
    intro c hc
    have hc16 : c < 16 := List.mem_range.1 hc
    have e : ((ks.filter (hoB n v)).filter (hoB n' v')) = ks.filter (hoB n' v') := by
      rw [List.filter_filter]
      apply List.filter_congr
      intro s _
      cases hp : hoB n' v' s with
      | false => simp
      | true => simp [ho_inn h (by omega) hp]
    rw [e]
/-- The node of a tree at a branch. -/
def tN (ks : List (List UInt8)) (n v : Nat) : List UInt8 := nodeK (2 - n) ks n v
theorem tN_filt {ks : List (List UInt8)} {n v n' v' : Nat} (h : inn n v n' v') (hn : n' ≤ 2) : tN (ks.filter (hoB n v)) n' v' = tN ks n' v' := nodeK_filt _ ks n v n' v' h (by omega)
theorem tN_len (ks : List (List UInt8)) (n v : Nat) : (tN ks n v).length = 32 := nodeK_len _ _ _ _
theorem tN_leaf (ks : List (List UInt8)) (v : Nat) : tN ks 2 v = kyL (digestB (catB ((ks.filter (hoB 2 v)).map dgT))) := rfl
theorem tN_not (ks : List (List UInt8)) (n v : Nat) (hn : n < 2) : tN ks n v = kyL (digestB (catB ((List.range 16).map fun c => dgT (tN ks (n + 1) (v * 16 + c))))) := by
  unfold tN
  rw [show 2 - n = (2 - (n + 1)) + 1 from by omega, nodeK]
  congr 3
  apply List.map_congr_left
  intro c hc
  rw [nodeK_filt _ ks n v (n + 1) (v * 16 + c) (inn_next n v c (List.mem_range.1 hc)) (by omega)]
/-- How many nodes lie at a branch and below. -/
def cnt : Nat → Nat
  | 0 => 1
  | k + 1 => 16 * cnt k + 1
/-- A tree in memory: of the branches for which h is so, the nodes over the keys; else what f says. -/
structure TrAt (W : World) (b nn : Nat) (f : Nat → Nat → Option (List UInt8)) : Prop where
  has : ∃ D : DataW Unit, W.ownsMap Tryz.prog 56 nodEl b nn D ∧ ∀ n v x, n ≤ 2 → v < 256 → f n v = some x → ∀ z, D.atKey (keyBr n v) z = .lit (.string x)
end Plain
theorem Plain.TrAt.lt {W : World} {b nn : Nat} {f : Nat → Nat → Option (List UInt8)} (h : TrAt W b nn f) : b < W.heap.size := by obtain ⟨D, h, _⟩ := h; exact h.lt
theorem Plain.TrAt.kept {W W' : World} {b nn : Nat} {f : Nat → Nat → Option (List UInt8)} (h : TrAt W b nn f) {row : Option Nat} (hg : W.grownBy W' row) (hne : some b ≠ row) : TrAt W' b nn f := by
  obtain ⟨D, h, q⟩ := h
  exact ⟨D, h.kept hg hne, q⟩
theorem Plain.TrAt.of_block {W W' : World} {b nn : Nat} {f : Nat → Nat → Option (List UInt8)} (h : TrAt W b nn f) (hb : W'.heap[b]? = W.heap[b]?) : TrAt W' b nn f := by
  obtain ⟨D, ⟨es, clock, q0, q1, q2, q3⟩, q⟩ := h
  exact ⟨D, ⟨es, clock, hb.trans q0, q1, q2, q3⟩, q⟩
theorem Plain.TrAt.below {W W' : World} {b nn B : Nat} {f : Nat → Nat → Option (List UInt8)} (h : TrAt W b nn f) (hb : Below B W W') (hB : b < B) : TrAt W' b nn f := h.of_block (hb.block b hB)
theorem Plain.TrAt.more {W : World} {b nn m : Nat} {f : Nat → Nat → Option (List UInt8)} (h : TrAt W b nn f) (hm : nn ≤ m) : TrAt W b m f := by
  obtain ⟨D, h, q⟩ := h
  exact ⟨D, h.mono hm, q⟩
theorem Plain.TrAt.sub {W : World} {b nn : Nat} {f g : Nat → Nat → Option (List UInt8)} (h : TrAt W b nn f) (hg : ∀ n v x, n ≤ 2 → v < 256 → g n v = some x → f n v = some x) : TrAt W b nn g := by
  obtain ⟨D, h, q⟩ := h
  exact ⟨D, h, fun n v x hn hv e => q n v x hn hv (hg n v x hn hv e)⟩
/-- 't[at]'. -/
theorem Plain.TrAt.look {W : World} {b nn : Nat} {f : Nat → Nat → Option (List UInt8)} (h : TrAt W b nn f) {n v : Nat} (hn : n ≤ 2) (hv : v < 256) {x : List UInt8} (hx : f n v = some x) :
    (Instr.lookup 51 (.map (some b)) (brV n v) false).run Tryz.prog W = .ok (.agg (encK x).toArray) W := by
  obtain ⟨D, h, q⟩ := h
  obtain ⟨u, ps, hrun, hu⟩ := h.lookup keyedBr Tryz.underlying51 (zeroKv W) (nodEl_of (by simp)) (keyBr_of hn hv)
  rw [q n v x hn hv hx] at hu
  rw [hrun, (nodEl_inv hu).1]
/-- 't[at] = node'. -/
theorem Plain.TrAt.put {W : World} {b nn : Nat} {f : Nat → Nat → Option (List UInt8)} (h : TrAt W b nn f) (hnn : nn < maxLen) {n v : Nat} (hn : n ≤ 2) (hv : v < 256) {x : List UInt8} (hx : x.length = 32) :
    ∃ W', (Instr.mapUpdate 51 (.map (some b)) (brV n v) (.agg (encK x).toArray)).run Tryz.prog W = .ok () W' ∧ TrAt W' b (nn + 1) (fun n' v' => if n' = n ∧ v' = v then some x else f n' v') ∧ W.grownBy W' (some b) := by
  obtain ⟨D, h, q⟩ := h
  obtain ⟨W', hrun, hown, hg⟩ := h.update keyedBr Tryz.underlying51 hnn (keyBr_of hn hv) (nodEl_of hx)
  refine ⟨W', hrun, ⟨D.put (keyBr n v) (.lit (.string x)), hown, fun n' v' y hn' hv' e z => ?_⟩, hg⟩
  by_cases c : n' = n ∧ v' = v
  · simp only [if_pos c] at e
    cases e
    rw [c.1, c.2]
    exact atKey_put_same h.isMap (keyBr_ok n v) _ z
  · simp only [if_neg c] at e
    rw [atKey_put_other (fun e2 => c (keyBr_inj hn' hv' hn hv e2))]
    exact q n' v' y hn' hv' e z
end Go.Proofs.YtldgkpnlplfopaaGreatDoor

