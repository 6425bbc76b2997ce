/- Texts of one kind, put together. -/
import Derived.Test.YtakalfckhailjaaGreatGAD
import Derived.Test.YtakalfckhailjaaGreatGAF
import Derived.Test.YtakalfckhailjaaGreatGAC
import Derived.Test.YtakalfckhailjaaGreatGAB
import Derived.Test.YtakalfckhailjaaGreatGAL
import Derived.Deep.QuietTactic
import Derived.BigQuiet
import Derived.Test.YtakalfckhailjaaGreatGAA
import Derived.Deep.AppendLies
import Derived.Test.YtakalfckhailjaaGreatGAH

/- A frame is read back from its bytes; with one byte turned, but in its length, it is not read. -/
namespace Go.Proofs.YtakalfckhailjaaGreat.Plain
open Go Go.RowKit
set_option linter.unusedVariables false

theorem or_nat (x y : Nat) (hx : x < 4294967296) (hy : y < 4294967296) : bits .or .u32 (x : Int) (y : Int) = ((x ||| y : Nat) : Int) := by
  rw [or_bv, BitVec.toNat_or]
  have e : ∀ z : Nat, z < 4294967296 → (BitVec.ofInt 32 (z : Int)).toNat = z := fun z hz => by rw [BitVec.toNat_ofInt]; omega
  rw [e x hx, e y hy]
theorem hi_sum (a b c d : Nat) (ha : a < 256) (hb : b < 256) (hc : c < 256) (hd : d < 256) : hiI a b c d = ((16777216 * a + 65536 * b + 256 * c + d : Nat) : Int) := by
  unfold hiI
  have e1 : (a : Int) * 16777216 = ((2 ^ 24 * a : Nat) : Int) := by omega
  have e2 : (b : Int) * 65536 = ((2 ^ 16 * b : Nat) : Int) := by omega
  have e3 : (c : Int) * 256 = ((2 ^ 8 * c : Nat) : Int) := by omega
  rw [e1, e2, e3, or_nat _ _ (by omega) (by omega), ← Nat.two_pow_add_eq_or_of_lt (by omega), or_nat _ _ (by omega) (by omega)]
  rw [show 2 ^ 24 * a + 2 ^ 16 * b = 2 ^ 16 * (2 ^ 8 * a + b) from by omega, ← Nat.two_pow_add_eq_or_of_lt (by omega), or_nat _ _ (by omega) (by omega)]
  rw [show 2 ^ 16 * (2 ^ 8 * a + b) + 2 ^ 8 * c = 2 ^ 8 * (2 ^ 16 * a + 2 ^ 8 * b + c) from by omega, ← Nat.two_pow_add_eq_or_of_lt (by omega)]
  first | done | (congr 1; omega)
theorem wd_sum (r : ByteArray) : wdI r = ((16777216 * bAt r 3 + 65536 * bAt r 2 + 256 * bAt r 1 + bAt r 0 : Nat) : Int) := hi_sum _ _ _ _ (bAt_lt _ _) (bAt_lt _ _) (bAt_lt _ _) (bAt_lt _ _)

theorem bAt_strOf (xs : List Int) (i : Nat) (h : i < xs.length) (h0 : 0 ≤ xs[i]) (h1 : xs[i] < 256) : (bAt (strOfNums xs) i : Int) = xs[i] := by
  unfold bAt
  rw [strOfNums_data, List.getD, List.getElem?_map, List.getElem?_eq_getElem h]
  simp
  omega
theorem wd_four (x : Int) (h0 : 0 ≤ x) (h1 : x < 4294967296) : wdI (strOfNums (fourL x)) = x := by
  rw [wd_sum]
  have a0 : (bAt (strOfNums (fourL x)) 0 : Int) = x % 256 := bAt_strOf (fourL x) 0 (by simp [fourL]) (by simp [fourL]; omega) (by simp [fourL]; omega)
  have a1 : (bAt (strOfNums (fourL x)) 1 : Int) = x / 256 % 256 := bAt_strOf (fourL x) 1 (by simp [fourL]) (by simp [fourL]; omega) (by simp [fourL]; omega)
  have a2 : (bAt (strOfNums (fourL x)) 2 : Int) = x / 65536 % 256 := bAt_strOf (fourL x) 2 (by simp [fourL]) (by simp [fourL]; omega) (by simp [fourL]; omega)
  have a3 : (bAt (strOfNums (fourL x)) 3 : Int) = x / 16777216 := bAt_strOf (fourL x) 3 (by simp [fourL]) (by simp [fourL]; omega) (by simp [fourL]; omega)
  omega

theorem bAt_extract (r : ByteArray) (a b j : Nat) (h : a + j < b) (hb : b ≤ r.size) : bAt (r.extract a b) j = bAt r (a + j) := by
  rw [← bAt_get _ j (by simp; omega), ← bAt_get _ (a + j) (by omega), ByteArray.getElem_extract]
theorem ext_bAt (r t : ByteArray) (hsz : r.size = t.size) (h : ∀ j, j < r.size → bAt r j = bAt t j) : r = t := by
  apply ByteArray.ext
  apply Array.ext'
  apply List.ext_getElem
  · simpa using hsz
  · intro i h1 h2
    have h1' : i < r.size := by simpa using h1
    have h2' : i < t.size := by simpa using h2
    have e := h i h1'
    rw [← bAt_get r i h1', ← bAt_get t i h2'] at e
    exact UInt8.toNat_inj.1 e
theorem pre_of (a b : ByteArray) : (a ++ b).extract 0 a.size = a := by
  apply ByteArray.ext
  apply Array.ext'
  rw [extract_list, app_list, ← len_list a]
  simp

/-- What a frame's bytes are made of. -/
theorem frame_parts (k : Int) (body : ByteArray) (h0 : 1 ≤ k) (h1 : k ≤ 100) (h2 : body.size ≤ 20000) :
    (frameB k body).size = body.size + 9 ∧ (bAt (frameB k body) 0 : Int) = k ∧ wdI ((frameB k body).extract 1 5) = body.size ∧ (frameB k body).extract 5 (body.size + 5) = body ∧
    (frameB k body).extract 0 (body.size + 5) = sealB k body ∧ (frameB k body).extract (body.size + 5) (body.size + 9) = strOfNums (fourL (crcI (sealB k body))) := by
  have e : frameB k body = sealB k body ++ strOfNums (fourL (crcI (sealB k body))) := by unfold frameB; rw [if_pos ⟨h0, h1, h2⟩]
  have hs := seal_size k body
  have h4 := four_size (crcI (sealB k body))
  have h5 := four_size body.size
  have h6 := one_size k
  have hsz : (frameB k body).size = body.size + 9 := by rw [e, ByteArray.size_append, hs, h4]; omega
  refine ⟨hsz, ?_, ?_, ?_, ?_, ?_⟩
  · have := bAt_strOf [k] 0 (by simp) (by simp; omega) (by simp; omega)
    have e2 : frameB k body = strOfNums [k] ++ (strOfNums (fourL body.size) ++ (body ++ strOfNums (fourL (crcI (sealB k body))))) := by rw [e]; unfold sealB; simp only [ByteArray.append_assoc]
    have hx := pre_of (strOfNums [k]) (strOfNums (fourL body.size) ++ (body ++ strOfNums (fourL (crcI (sealB k body)))))
    rw [← e2, h6] at hx
    have hy := bAt_extract (frameB k body) 0 1 0 (by omega) (by omega)
    rw [hx, Nat.add_zero] at hy
    rw [← hy]
    simpa using this
  · have e2 : frameB k body = strOfNums [k] ++ (strOfNums (fourL body.size) ++ (body ++ strOfNums (fourL (crcI (sealB k body))))) := by rw [e]; unfold sealB; simp only [ByteArray.append_assoc]
    have hx := mid_of (strOfNums [k]) (strOfNums (fourL body.size)) (body ++ strOfNums (fourL (crcI (sealB k body))))
    rw [← e2, h6, h5] at hx
    rw [hx]
    exact wd_four _ (by omega) (by omega)
  · have e2 : frameB k body = (strOfNums [k] ++ strOfNums (fourL body.size)) ++ (body ++ strOfNums (fourL (crcI (sealB k body)))) := by rw [e]; unfold sealB; simp only [ByteArray.append_assoc]
    have hx := mid_of (strOfNums [k] ++ strOfNums (fourL body.size)) body (strOfNums (fourL (crcI (sealB k body))))
    rw [← e2, ByteArray.size_append, h6, h5] at hx
    rw [show body.size + 5 = 1 + 4 + body.size from by omega]
    exact hx
  · have hx := pre_of (sealB k body) (strOfNums (fourL (crcI (sealB k body))))
    rw [← e, hs] at hx
    rw [show body.size + 5 = 5 + body.size from by omega]
    exact hx
  · have hx := rest_of (sealB k body) (strOfNums (fourL (crcI (sealB k body))))
    rw [← e, hs, hsz] at hx
    rw [show body.size + 5 = 5 + body.size from by omega]
    exact hx

theorem frame_back (k : Int) (body : ByteArray) (h0 : 1 ≤ k) (h1 : k ≤ 100) (h2 : body.size ≤ 20000) :
    szI (frameB k body) = (0, body.size + 9) ∧ frC (frameB k body) = 0 ∧ frm (frameB k body) = (k, body) := by
  obtain ⟨p1, p2, p3, p4, p5, p6⟩ := frame_parts k body h0 h1 h2
  have hsz : szI (frameB k body) = (0, body.size + 9) := by
    unfold szI
    rw [if_neg (by omega), if_neg (by omega), p3, if_neg (by omega), Int.toNat_natCast, if_neg (by omega)]
    rw [Nat.add_comm]
  have hr := crcI_range (sealB k body)
  refine ⟨hsz, ?_, ?_⟩
  · unfold frC
    rw [hsz, if_neg (by simp)]
    simp only
    rw [show body.size + 9 - 4 = body.size + 5 from by omega, p5, p6, wd_four _ hr.1 hr.2, if_pos rfl]
  · unfold frm frB frN
    rw [hsz]
    simp only
    rw [show body.size + 9 - 4 = body.size + 5 from by omega, p4, p2]

theorem read_one (s : ByteArray) (hs : 1 ≤ s.size) (h : frC s = 0) (hn : (szI s).2 = s.size) : readF s = ([frm s], s.size, 0) := by
  have hx : s.extract 0 s.size = s := by apply ByteArray.ext; apply Array.ext'; rw [extract_list, List.drop_zero, Nat.sub_zero, ← len_list s, List.take_length]
  have m0 := Mid.start s
  have m1 := m0.next (by omega) (by simp) (by rw [hx]; exact h)
  rw [hx] at m1
  have hfn : frN s = s.size := hn
  rw [hfn] at m1
  simpa using m1.ends (by omega)
/-! ### One byte turned -/
end Go.Proofs.YtakalfckhailjaaGreat.Plain


/- Rows of any element: made of zero values, one cell of one element set. -/
namespace Go.Proofs.YtakalfckhailjaaGreat
open Go.RowKit Plain
set_option linter.unusedVariables false

namespace Plain
theorem flat_setJ {α β : Type} (f : α → List β) (n : Nat) (h : ∀ x, (f x).length = n) (u : β) (j : Nat) (hj : j < n) : ∀ (xs : List α) (k : Nat) (hk : k < xs.length) (y : α), f y = (f xs[k]).set j u → (xs.set k y).flatMap f = (xs.flatMap f).set (k * n + j) u
  | [], k, hk, y, hy => by simp at hk
  | x :: l, 0, hk, y, hy => by
    rw [List.set_cons_zero, List.flatMap_cons, List.flatMap_cons, Nat.zero_mul, Nat.zero_add, List.set_append_left _ _ (by rw [h]; exact hj), hy]
    rfl
  | x :: l, k + 1, hk, y, hy => by
    rw [List.set_cons_succ, List.flatMap_cons, List.flatMap_cons, flat_setJ f n h u j hj l k (by simpa using hk) y (by simpa using hy), List.set_append_right _ _ (by rw [h, Nat.succ_mul]; omega), h, show (k + 1) * n + j - n = k * n + j from by rw [Nat.succ_mul]; omega]
end Plain
theorem OwnR.setJ {α : Type} {e : Elem α} {W : World} {B g n cap : Nat} {xs : List α} (h : OwnR e W B (.slice (some ⟨g, 0, none⟩) n cap) xs) (hn : xs.length = n) (k : Nat) (hk : k < xs.length) (j : Nat) (hj : j < e.n) (u : Value) (y : α) (hy : e.enc y = (e.enc xs[k]).set j u) :
    OwnR e (W.setCell ⟨g, k * e.n + j, none⟩ u) B (.slice (some ⟨g, 0, none⟩) n cap) (xs.set k y) := by
  unfold OwnR at h ⊢
  rw [List.length_set, flat_setJ e.enc e.n e.hlen u j hj xs k hk y hy]
  subst hn
  exact (World.ownsRow.stored h (k * e.n + j) u).1
theorem RowAt.setJ {α : Type} {e : Elem α} {W : World} {g : Nat} {L : List α} (h : RowAt e W (some ⟨g, 0, none⟩) L) (k : Nat) (hk : k < L.length) (j : Nat) (hj : j < e.n) (u : Value) (y : α) (hy : e.enc y = (e.enc L[k]).set j u) :
    RowAt e (W.setCell ⟨g, k * e.n + j, none⟩ u) (some ⟨g, 0, none⟩) (L.set k y) := by
  intro i hi
  rw [List.length_set] at hi
  obtain ⟨g', e1, hl, hc⟩ := h i hi
  cases e1
  refine ⟨g, rfl, by simpa using hl, fun m hm => ⟨?_, by rw [World.frozen?_setCell]; exact (hc m hm).2⟩⟩
  have hdist : i * e.n + m = k * e.n + j ↔ i = k ∧ m = j := by
    constructor
    · intro q
      have h1 : (i * e.n + m) / e.n = (k * e.n + j) / e.n := by rw [q]
      have h2 : (i * e.n + m) % e.n = (k * e.n + j) % e.n := by rw [q]
      have hp := e.hn
      rw [Nat.mul_comm i, Nat.mul_comm k, Nat.mul_add_div hp, Nat.mul_add_div hp, Nat.div_eq_of_lt hm, Nat.div_eq_of_lt hj] at h1
      rw [Nat.mul_add_mod_self_right, Nat.mul_add_mod_self_right, Nat.mod_eq_of_lt hm, Nat.mod_eq_of_lt hj] at h2
      exact ⟨by omega, h2⟩
    · rintro ⟨rfl, rfl⟩; rfl
  by_cases hik : i = k
  · subst hik
    rw [List.getElem_set_self, hy]
    by_cases hmj : m = j
    · subst hmj
      rw [World.cell?_setCell_same' _ _ _ (by rw [(hc m hm).1, List.getElem?_eq_getElem (by rw [e.hlen]; exact hm)]; rfl), List.getElem?_set_self (by rw [e.hlen]; exact hm)]
    · rw [World.cell?_setCell_other _ ⟨g, i * e.n + j, none⟩ ⟨g, i * e.n + m, none⟩ _ (fun q => hmj (hdist.1 (by have := congrArg Addr.off q; simpa using this.symm)).2), (hc m hm).1, List.getElem?_set_ne (fun q => hmj q.symm)]
  · rw [World.cell?_setCell_other _ ⟨g, k * e.n + j, none⟩ ⟨g, i * e.n + m, none⟩ _ (fun q => hik (hdist.1 (by have := congrArg Addr.off q; simpa using this.symm)).1), (hc m hm).1, List.getElem_set_ne (fun q => hik q.symm)]
end Go.Proofs.YtakalfckhailjaaGreat


/- Rows of entries, as the exact laws copy, measure and compare them. -/
namespace Go.Proofs.YtakalfckhailjaaGreat
open Go.RowKit Plain
set_option linter.unusedVariables false

/-- Entries as elements. -/
def entE : Elem Ent where
  E := 45
  S := 28
  n := 3
  bytes := 32
  zero := .agg #[.int .i64 0, .int .i64 0, .string ⟨#[]⟩]
  enc := fun e => [.int .i64 e.term, .int .i64 e.kind, .string e.body]
  hund := Tryz.underlying28
  hinfo := by kernel_rfl
  hz := rfl
  hn := by decide
  hb := by decide
  hlen := fun _ => rfl
  hone := fun x u hu => by simp at hu; rcases hu with rfl | rfl | rfl <;> rfl

namespace Plain
theorem ArgAt.e {W : World} {a : Option Addr} {xs : List Ent} (h : ArgAt 3 entL W a xs) (i : Nat) (hi : i < xs.length) : ∃ g o, a = some ⟨g, o, none⟩ ∧ g < W.heap.size ∧ W.cell? ⟨g, o + i * 3, none⟩ = some (.int .i64 xs[i].term) ∧ W.cell? ⟨g, o + i * 3 + 1, none⟩ = some (.int .i64 xs[i].kind) ∧ W.cell? ⟨g, o + i * 3 + 2, none⟩ = some (.string xs[i].body) := by
  obtain ⟨g, o, e, hl, hc⟩ := h i hi
  exact ⟨g, o, e, hl, hc 0 (by decide), hc 1 (by decide), hc 2 (by decide)⟩
end Plain
theorem RowAt.ex {W : World} {a : Option Addr} {xs : List Ent} (h : RowAt entE W a xs) (i : Nat) (hi : i < xs.length) : ∃ g, a = some ⟨g, 0, none⟩ ∧ g < W.heap.size ∧ W.cell? ⟨g, i * 3, none⟩ = some (.int .i64 xs[i].term) ∧ W.cell? ⟨g, i * 3 + 1, none⟩ = some (.int .i64 xs[i].kind) ∧ W.cell? ⟨g, i * 3 + 2, none⟩ = some (.string xs[i].body) := by
  obtain ⟨g, e, hl, hc⟩ := h i hi
  exact ⟨g, e, hl, (hc 0 (by decide)).1, (hc 1 (by decide)).1, (hc 2 (by decide)).1⟩











end Go.Proofs.YtakalfckhailjaaGreat


/- What is read of a command's bytes, as plain mathematics. -/
namespace Go.Proofs.YtakalfckhailjaaGreat
open Go.RowKit Plain
set_option linter.unusedVariables false

namespace Plain
theorem tkGo_shift (s : ByteArray) (p : Nat) (hp : p ≤ s.size) : ∀ f i n, tkGo (s.extract p s.size) 0 f i n = tkGo s p f i n := by
  intro f
  induction f with
  | zero => intro i n; rfl
  | succ f ih =>
    intro i n
    have hz : (s.extract p s.size).size = s.size - p := by rw [ByteArray.size_extract]; omega
    by_cases h : p + i < s.size
    · have h0 : 0 + i < (s.extract p s.size).size := by omega
      have he : (s.extract p s.size)[0 + i].toNat = s[p + i].toNat := by
        rw [ByteArray.getElem_extract]
        simp
      by_cases hc : s[p + i].toNat < 128
      · by_cases hb : (s[p + i].toNat = 0 ∧ 0 < i) ∨ 1000000000000 < n + s[p + i].toNat % 128 * 128 ^ i
        · rw [tkGo_bad _ _ _ _ _ h hc hb, tkGo_bad _ _ _ _ _ h0 (by rw [he]; exact hc) (by rw [he]; exact hb)]
        · rw [tkGo_good _ _ _ _ _ h hc hb, tkGo_good _ _ _ _ _ h0 (by rw [he]; exact hc) (by rw [he]; exact hb), he]
      · rw [tkGo_more _ _ _ _ _ h hc, tkGo_more _ _ _ _ _ h0 (by rw [he]; exact hc), he, ih]
    · rw [tkGo_end _ _ _ _ _ h, tkGo_end _ _ _ _ _ (by omega)]
theorem tkN_shift (s : ByteArray) (p : Nat) (hp : p ≤ s.size) : tkN (s.extract p s.size) 0 = tkN s p := tkGo_shift s p hp 6 0 0
theorem tkT_shift (s : ByteArray) (p : Nat) (hp : p ≤ s.size) : tkT (s.extract p s.size) 0 = tkT s p := by
  have hz : (s.extract p s.size).size = s.size - p := by rw [ByteArray.size_extract]; omega
  unfold tkT
  rw [tkN_shift s p hp, hz]
  cases h : tkN s p with
  | none => rfl
  | some x =>
    obtain ⟨v, l⟩ := x
    have := tkN_le h
    by_cases h2 : v ≤ 20000 ∧ p + l + v ≤ s.size
    · show (if _ then _ else _) = if _ then _ else _
      rw [if_pos h2, if_pos (by omega)]
    · show (if _ then _ else _) = if _ then _ else _
      rw [if_neg h2, if_neg (by omega)]
theorem tkT_le {s : ByteArray} {p l v : Nat} (h : tkT s p = some (l, v)) : p + l + v ≤ s.size ∧ v ≤ 20000 := by
  unfold tkT at h
  cases hn : tkN s p with
  | none => rw [hn] at h; simp at h
  | some x =>
    obtain ⟨v', l'⟩ := x
    rw [hn] at h
    simp at h
    omega

/-- The number at a place, and the place behind it; the same of a text. -/
def stp (s : ByteArray) (p : Nat) : Option (Int × Nat) := (tkN s p).map fun x => ((x.1 : Int), p + x.2)
def txp (s : ByteArray) (p : Nat) : Option (ByteArray × Nat) := (tkT s p).map fun x => (s.extract (p + x.1) (p + x.1 + x.2), p + x.1 + x.2)
/-- So much has been read: nothing when the flag is up. -/
def HasR {α : Type} (S : Option (α × Nat)) (f : Bool) (a : α) (p : Nat) : Prop := (f = true ∧ S = none) ∨ (f = false ∧ S = some (a, p))
theorem HasR.start : HasR (some ((), 0)) false () 0 := .inr ⟨rfl, rfl⟩
end Plain
end Go.Proofs.YtakalfckhailjaaGreat


/- Rows of frames of the call's own; a frame appended to one. -/
namespace Go.Proofs.YtakalfckhailjaaGreat
open Go.RowKit Plain
set_option linter.unusedVariables false

namespace Plain
def fcells (fs : List (Int × ByteArray)) : List Value := fs.flatMap fun f => [.int .i64 f.1, .string f.2]
theorem fcells_app (fs : List (Int × ByteArray)) (f : Int × ByteArray) : fcells (fs ++ [f]) = fcells fs ++ [.int .i64 f.1, .string f.2] := by simp [fcells]
end Plain

/-- The value v is a slice of frames which the call owns (from block B on), holding fs. -/
def OwnF (W : World) (B : Nat) (v : Value) (fs : List (Int × ByteArray)) : Prop := W.ownsRow B 95 2 v fs.length (fcells fs)
theorem ownF_nil (W : World) (B : Nat) : OwnF W B (.slice none 0 0) [] := World.ownsRow_nil _ _ _ _
theorem ownF_empty (W : World) (B : Nat) (hB : B ≤ W.heap.size) : OwnF (W.alloc (.cells #[] 95)) B (.slice (some ⟨W.heap.size, 0, none⟩) 0 0) [] :=
  World.ownsRow_made W #[] 0 hB (by unfold maxLen; omega) rfl
theorem info35 : (Tryz.prog.info? 95).map (fun i => (i.zero, i.size, i.bytes)) = some (some (.agg #[.int .i64 0, .string ⟨#[]⟩]), 2, 24) := by kernel_rfl

theorem appF {ops : Array Oper} {rest : List Oper} {o : Oper} {a : Act} {Q : Exit → Act → World → Prop} (hgd : o.guard = none) (s x : Operand)
    (ho : o.op = .call { callee := .builtin .append, args := #[s, x], argTypes := #[106, 106] })
    {w : World} {B : Nat} {k : Int} {b : ByteArray} {v : Value} {fs : List (Int × ByteArray)} (hown : OwnF w B v fs) (hs : a.eval s = v)
    (gx : Nat) (hx : a.eval x = .slice (some ⟨gx, 0, none⟩) 1 1) (hgx : gx = w.heap.size) (hlen : fs.length < 1000000) (hB : B ≤ w.heap.size)
    (h : ∀ v' w', OwnF w' B v' (fs ++ [(k, b)]) → Below B w w' → wpList Tryz.prog ops Q rest (a.put o.dst v') w') :
    wpList Tryz.prog ops Q (o :: rest) a (w.alloc (.cells #[.int .i64 k, .string b] 95)) := by
  subst hgx
  obtain ⟨i0, hi, hz0, hz1, hz2⟩ := info_parts info35
  have ha := World.ownsRow.alloc hown (.cells #[.int .i64 k, .string b] 95)
  refine wpList_append_own _ hgd s x 106 ho B 95 i0 (.agg #[.int .i64 0, .string ⟨#[]⟩]) 2 24 Tryz.underlying106 hi hz0 hz1 hz2 rfl (by decide) v fs.length (fcells fs) hs ha
    ⟨w.heap.size, 0, none⟩ 1 1 [.int .i64 k, .string b] hx rfl (World.news_of_block (h_new w _ rfl)) ?_ (by unfold maxLen; omega) (by omega) (by simp; omega) ?_
  · intro u hu; simp at hu; rcases hu with rfl | rfl <;> rfl
  · intro v' w' h1 h2 _
    refine h v' w' ?_ (((Below.refl B w).alloc hB _).trans (own_below ha h2 (by simp; omega)))
    unfold OwnF
    rw [fcells_app]
    simpa using h1
end Go.Proofs.YtakalfckhailjaaGreat


/- How far a drawing has come. -/
namespace Go.Proofs.YtakalfckhailjaaGreat
open Go.RowKit Plain
set_option linter.unusedVariables false

namespace Plain
theorem OnlyAt.c {R b i : Nat} {W W' : World} {v : Value} (ho : OnlyAt ⟨R, 1, none⟩ W W') (hc : W.cell? ⟨b, i, none⟩ = some v) (hb : b ≠ R) : W'.cell? ⟨b, i, none⟩ = some v :=
  (ho.cell ⟨b, i, none⟩ (lt_of_cell hc) (fun e => hb (congrArg Addr.block e))).trans hc
theorem OnlyAt.z {R b i : Nat} {W W' : World} (ho : OnlyAt ⟨R, 1, none⟩ W W') (hb : b < W.heap.size) (hf : W.frozen? ⟨b, i, none⟩ = false) : W'.frozen? ⟨b, i, none⟩ = false := (ho.frozen ⟨b, i, none⟩ hb).trans hf
theorem OnlyAt.setNew2 {a : Addr} {u v : World} (h : OnlyAt a u v) {q : Addr} (hq : u.heap.size ≤ q.block) (x : Value) : OnlyAt a u (v.setCell q x) :=
  ⟨h.os, h.tape, h.output, by simpa using h.size, fun k hk hne => (Below.heap_setCell _ _ _ _ (by omega)).trans (h.block k hk hne), fun c hc hne => (World.cell?_setCell_other v q c x (fun e => by subst e; omega)).trans (h.cell c hc hne), fun c hc => by simpa using h.frozen c hc⟩
/-- From w the drawing has come to W. -/
structure DS (w : World) (R : Nat) (a : Option Addr) (len cap : Nat) (zs : List Int) (W : World) : Prop where
  rd : Rd W R a len cap zs
  only : OnlyAt ⟨R, 1, none⟩ w W
theorem DS.start {w : World} {R : Nat} {a : Option Addr} {len cap : Nat} {zs : List Int} (h : Rd w R a len cap zs) : DS w R a len cap zs w := ⟨h, OnlyAt.refl _ _⟩
theorem DS.call {w W W' : World} {R : Nat} {a : Option Addr} {len cap : Nat} {zs : List Int} (h : DS w R a len cap zs W) (h1 : Rd W' R a len cap zs) (h2 : OnlyAt ⟨R, 1, none⟩ W W') : DS w R a len cap zs W' := ⟨h1, h.only.trans h2⟩
theorem DS.below {w W W' : World} {R : Nat} {a : Option Addr} {len cap : Nat} {zs : List Int} (h : DS w R a len cap zs W) (h2 : Below W.heap.size W W') : DS w R a len cap zs W' := ⟨h.rd.below h2, h.only.trans (OnlyAt.of_below h2)⟩
theorem DS.alloc {w W : World} {R : Nat} {a : Option Addr} {len cap : Nat} {zs : List Int} (h : DS w R a len cap zs W) (o : Obj) : DS w R a len cap zs (W.alloc o) := h.below ((Below.refl _ _).alloc (Nat.le_refl _) _)
theorem DS.set {w W : World} {R : Nat} {a : Option Addr} {len cap : Nat} {zs : List Int} (h : DS w R a len cap zs W) {b i : Nat} (hR : R < w.heap.size) (hb : w.heap.size ≤ b) (v : Value) : DS w R a len cap zs (W.setCell ⟨b, i, none⟩ v) :=
  ⟨h.rd.onlyB (B := b) ((Below.refl b W).setCell (Nat.le_refl _) _) (by omega), h.only.setNew2 (q := ⟨b, i, none⟩) hb v⟩
theorem DS.drewN {w W : World} {R : Nat} {a : Option Addr} {len cap : Nat} {zs : List Int} (h : DS w R a len cap zs W) (k : Nat) : DS w R a len cap zs (W.drewN k) :=
  ⟨by obtain ⟨p, hp⟩ := h.rd; exact ⟨p, hp.only ((OnlyAt.refl _ _).drewN k) hp.c1 hp.le⟩, h.only.drewN k⟩
theorem OnlyAt.thenBelow {a : Addr} {u v w : World} {B : Nat} (h : OnlyAt a u v) (hb : Below B v w) (hB : u.heap.size ≤ B) : OnlyAt a u w :=
  ⟨hb.os.trans h.os, hb.tape.trans h.tape, hb.output.trans h.output, Nat.le_trans h.size hb.size, fun k hk hne => (hb.block k (by omega)).trans (h.block k hk hne), fun c hc hne => (hb.cell (by omega)).trans (h.cell c hc hne), fun c hc => (hb.frozen (by omega)).trans (h.frozen c hc)⟩
theorem DS.belowB {w W W' : World} {R B : Nat} {a : Option Addr} {len cap : Nat} {zs : List Int} (h : DS w R a len cap zs W) (hb : Below B W W') (hR : R < B) (hB : w.heap.size ≤ B) : DS w R a len cap zs W' := ⟨h.rd.onlyB hb hR, h.only.thenBelow hb hB⟩
theorem DS.drew {w W : World} {R : Nat} {a : Option Addr} {len cap : Nat} {zs : List Int} (h : DS w R a len cap zs W) : DS w R a len cap zs W.drew := h.drewN 1
end Plain
end Go.Proofs.YtakalfckhailjaaGreat


/- Rows of numbers, as the exact laws copy, measure and compare them. -/
namespace Go.Proofs.YtakalfckhailjaaGreat
open Go.RowKit Plain
set_option linter.unusedVariables false

namespace Plain
def intL (z : Int) : List Value := [.int .i64 z]
end Plain
/-- Numbers as elements. -/
def i64E : Elem Int where
  E := 2
  S := 53
  n := 1
  bytes := 8
  zero := .int .i64 0
  enc := intL
  hund := Tryz.underlying53
  hinfo := by kernel_rfl
  hz := rfl
  hn := by decide
  hb := by decide
  hlen := fun _ => rfl
  hone := fun x u hu => by simp [intL] at hu; subst hu; rfl
theorem Plain.ArgAt.ix {W : World} {a : Option Addr} {xs : List Int} (h : ArgAt 1 intL W a xs) (i : Nat) (hi : i < xs.length) : ∃ g o, a = some ⟨g, o, none⟩ ∧ g < W.heap.size ∧ W.cell? ⟨g, o + i, none⟩ = some (.int .i64 xs[i]) := by
  obtain ⟨g, o, e, hl, hc⟩ := h i hi
  have := hc 0 (by decide)
  rw [Nat.mul_one, Nat.add_zero] at this
  exact ⟨g, o, e, hl, this⟩
theorem RowAt.ix {W : World} {a : Option Addr} {xs : List Int} (h : RowAt i64E W a xs) (i : Nat) (hi : i < xs.length) : ∃ g, a = some ⟨g, 0, none⟩ ∧ g < W.heap.size ∧ W.cell? ⟨g, i, none⟩ = some (.int .i64 xs[i]) ∧ W.frozen? ⟨g, i, none⟩ = false := by
  obtain ⟨g, e1, hl, h1⟩ := h i hi
  have := h1 0 (by decide)
  rw [show i * i64E.n + 0 = i from Nat.mul_one i] at this
  exact ⟨g, e1, hl, this⟩





end Go.Proofs.YtakalfckhailjaaGreat


/- A number below a great one, drawn. -/
namespace Go.Proofs.YtakalfckhailjaaGreat
open Go.RowKit Plain
set_option linter.unusedVariables false

theorem belowW_calls (R : Nat) (a : Option Addr) (len cap : Nat) (zs : List Int) (n : Int) (w : World) (h : Rd w R a len cap zs) (h1 : 1 ≤ n) (h2 : n ≤ 1000000000) :
    Calls Tryz.prog 64 #[.pointer (some ⟨R, 0, none⟩), .int .i64 n] w fun e w' => ∃ v : Int, e = .returned (.int .i64 v) ∧ 0 ≤ v ∧ v < n ∧ Rd w' R a len cap zs ∧ OnlyAt ⟨R, 1, none⟩ w w' := by
  by_cases h4 : n ≤ 60000
  · exact below_calls R a len cap zs n w h h1 h4
  have H := hide h
  clear h
  go_enter Tryz.func64, Tryz.ntmps64
  go_wp2_with fail
  refine (next_calls R a len cap zs _ (unhide H)).mono ?_
  rintro e w1 ⟨v, rfl, hv0, hv1, hR1, ho1⟩
  have HR1 := hide hR1
  clear hR1
  go_wp2_with fail
  refine (next_calls R a len cap zs _ (unhide HR1)).mono ?_
  rintro e w2 ⟨u, rfl, hu0, hu1, hR2, ho2⟩
  have HR2 := hide hR2
  clear hR2
  go_wp2
  go_ret
  exact ⟨(v * 256 + u) % n, by first | rfl | (simp), Int.emod_nonneg _ (by omega), Int.emod_lt_of_pos _ (by omega), unhide HR2, ho1.trans ho2⟩
end Go.Proofs.YtakalfckhailjaaGreat

